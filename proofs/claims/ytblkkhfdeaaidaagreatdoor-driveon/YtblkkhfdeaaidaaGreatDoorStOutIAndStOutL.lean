import Derived.Test.YtblkkhfdeaaidaaGreatDoorStOutSAndStRl
import Derived.Test.YtblkkhfdeaaidaaGreatDoorStOfPAndStSwap
set_option maxHeartbeats 12800000
set_option maxRecDepth 100000
namespace Go.Proofs.YtblkkhfdeaaidaaGreatDoor
open Go.RowKit
theorem ae3{w:World}{T:Int}{N ka bn m:Nat}{ra:Option Addr}{rc:Nat}{op c at_:Int}{R:List Ru}{L:Int}{l:List Sy}{sv:Value}{CH:List Int}(hr:au w w.heap.size (.slice ra R.length rc) R)(hl:R.length<=1000)(hl2:∀q,q<R.length->(R.getD q (0,[])).2.length<=1000)(hk:ka<R.length)(hx:R.getD ka (0,[])=(L,l))(hcl:l.length=bn+1+m)
 (hS:aP w w.heap.size sv CH) (hCH:∀k,k<CH.length->0<=CH.getD k 0/\CH.getD k 0<(R.length:Int)) (hc:CH.length<=1000):
 Calls Tryz.prog 237 #[.agg #[.int .i64 T,.int .i64 N,.slice ra R.length rc,.int .i64 op,.int .i64 ka,.int .i64 bn,.int .i64 c,sv,.int .i64 at_]] w fun e w'=> ∃lv RL,e= .returned (.agg #[.int .i64 T,.int .i64 N,lv])/\aM w' w.heap.size lv RL/\(RL.map fun x=>x.2)=R.take ka++CH.map (fun i=>(L,l.take bn++(R.getD i.toNat (0,[])).2++l.drop (bn+1)))++R.drop (ka+1)/\Below w.heap.size w w':=by
 obtain⟨sa,sc,hsv⟩:=hS.1;subst hsv;obtain⟨cs,hcs⟩:∃cs:Array Value,#[.int .i64 T,.int .i64 N,.slice ra R.length rc,.int .i64 op,.int .i64 ka,.int .i64 bn,.int .i64 c,.slice sa CH.length sc,.int .i64 at_]=cs:=⟨_,rfl⟩;have hC0:bI w cs 258 ra rc R ((w.alloc (.cells cs 258)).alloc (.cells #[.int .i64 0,.int .i64 0,.slice none 0 0] 26)):=IG hr;rw[<-hcs]at hC0;obtain⟨W0,hW0⟩:∃W,(w.alloc (.cells #[.int .i64 T,.int .i64 N,.slice ra R.length rc,.int .i64 op,.int .i64 ka,.int .i64 bn,.int .i64 c,.slice sa CH.length sc,.int .i64 at_] 258)).alloc (.cells #[.int .i64 0,.int .i64 0,.slice none 0 0] 26)=W:=⟨_,rfl⟩;rw[hW0,hcs]at hC0;have tZ:Hid (#[.int .i64 T,.int .i64 N,.slice ra R.length rc,.int .i64 op,.int .i64 ka,.int .i64 bn,.int .i64 c,.slice sa CH.length sc,.int .i64 at_]=cs):=hcs
 have bV:Hid (∀wq,bI w cs 258 ra rc R wq->wq.cell? ⟨w.heap.size,0,none⟩=some (.int .i64 T)/\wq.cell? ⟨w.heap.size,1,none⟩=some (.int .i64 N)/\wq.cell? ⟨w.heap.size,2,none⟩=some (.slice ra R.length rc)/\wq.cell? ⟨w.heap.size,3,none⟩=some (.int .i64 op)/\wq.cell? ⟨w.heap.size,4,none⟩=some (.int .i64 ka)/\wq.cell? ⟨w.heap.size,5,none⟩=some (.int .i64 bn)/\wq.cell? ⟨w.heap.size,6,none⟩=some (.int .i64 c)/\wq.cell? ⟨w.heap.size,7,none⟩=some (.slice sa CH.length sc)):=fun wq hq=>by
  refine⟨hq.cell ?_,hq.cell ?_,hq.cell ?_,hq.cell ?_,hq.cell ?_,hq.cell ?_,hq.cell ?_,hq.cell ?_⟩<;>(rw[<-tZ.out];rfl)
 obtain⟨x0,x1,x2,x3,x4,x5,x6,x7⟩:=bV.out W0 hC0;obtain⟨b0,o0,qy,qa,qc,hv,_,k1,k2,hsy⟩:=hC0.rules.jV hk;cases hv;have kD:=hl2 ka hk;rw[hx]at k1 k2 hsy kD;simp only at k1 k2 hsy kD;have hqc:l.length<=qc:=by obtain⟨_,_,hv,hle⟩:=hsy.1;cases hv;exact hle
 obtain⟨ad,rfl⟩:=hsy.IJ (by omega);rw[hcl]at k2 kD hqc;obtain⟨W1,hW1⟩:∃W,W0.alloc (.cells #[.int .i64 L,.slice (some ad) (bn+1+m) qc] 91)=W:=⟨_,rfl⟩;obtain⟨rb,hrb⟩:∃x,W0.heap.size=x:=⟨_,rfl⟩;have hB1:Below W0.heap.size W0 W1:=by rw[<-hW1];exact(Below.refl _ _).alloc (Nat.le_refl _) _
 have HB1:Hid (Below W0.heap.size W0 W1):=hB1;have r0:W1.cell? ⟨rb,0,none⟩=some (.int .i64 L):=by rw[<-hW1,<-hrb];exact aB (heap_alloc_new _ _) rfl
 have r1:W1.cell? ⟨rb,1,none⟩=some (.slice (some ad) (bn+1+m) qc):=by rw[<-hW1,<-hrb];exact aB (heap_alloc_new _ _) rfl
 have vY:=hC0.next hB1
 have HW:Hid (bI w cs 258 (some ⟨b0,o0,none⟩) rc R W1/\W1.cell? ⟨rb,0,none⟩=some (.int .i64 L)/\W1.cell? ⟨rb,1,none⟩=some (.slice (some ad) (bn+1+m) qc)/\rb<W1.heap.size/\bG W1 (.slice (some ad) (bn+1+m) qc) l/\w.heap.size+2<=W1.heap.size):=by
  refine⟨vY,r0,r1,World.block_lt_of_cell? _ _ r0,?_,vY.size⟩;have:=hsy.same (iH hB1);rw[hcl]at this;exact this
 have HS:Hid (∀wq,bI w cs 258 (some ⟨b0,o0,none⟩) rc R wq->aP wq w.heap.size (.slice sa CH.length sc) CH):=fun wq hq=>hS.below hq.below;have HCH:Hid (∀k,k<CH.length->0<=CH.getD k 0/\CH.getD k 0<(R.length:Int)):=hCH;have H2:Hid (∀q,q<R.length->(R.getD q (0,[])).2.length<=1000):=hl2;have HX:Hid (R.getD ka (0,[])=(L,l)/\l.length=bn+1+m):=⟨hx,hcl⟩;have y7:=(bV.out W1 vY).2.2.2.2.2.2.2;have i0:(0:Int)<=(ka:Int):=Int.natCast_nonneg _;have i1:(ka:Int)<(R.length:Int):=by omega
 clear hr hl2 hx hcl hC0 hcs hsy hB1 hS hCH vY
 go_enter Tryz.func237,Tryz.ntmps237
 go_wp2_with fail
 clear x0 x1 x2 x3 x4 x5 x6 x7 y7 k1 k2 hW0 hW1 hrb r0 r1 HB1;have hup:=fun w=>EK (ad:=ad) (f:=bn) (sl:=bn+1+m) (lc:=qc) (fi:=(bn:Int)) rfl (by omega) w;obtain⟨A,hA,hA'⟩:=MK (la:=some ad) (f:=bn+1) (n:=m) (sl:=bn+1+m) (lc:=qc) (fi:=(bn:Int)+1) (by push_cast;rfl) rfl;have zq:Hid (qc≠bn+1->A=(some ad).map (·.add ((bn+1)*2))):=hA';have i5:IntKind.i64.wrap ((bn:Int)+1)=(bn:Int)+1:=IntWalk.i64_in _ (by omega);clear hA'
 go_loopw [4,22] (fun s4 Lx wr=> ∃(k:Nat) (pv:Value) (PL:List (Value×Ru)),pv=s4/\Lx= .int .i64 k/\k<=CH.length/\aM wr W1.heap.size pv PL/\PL.length=k/\(PL.map fun x=>x.2)=(CH.take k).map (fun i=>(L,l.take bn++(R.getD i.toNat (0,[])).2++l.drop (bn+1)))/\Below W1.heap.size W1 wr) (fun _ s _=>CH.length-(intOf s).toNat)
 case atStart=>exact⟨0,_,[],rfl,rfl,Nat.zero_le _,IC _ _,rfl,rfl,Below.refl _ _⟩
 case round=>
  obtain⟨k,pv,PL,rfl,rfl,hk',hP,Nl,hmap,hB⟩:=hrel;have HP:Hid (aM wr W1.heap.size pv PL/\PL.length=k/\(PL.map fun x=>x.2)=(CH.take k).map (fun i=>(L,l.take bn++(R.getD i.toNat (0,[])).2++l.drop (bn+1)))):=⟨hP,Nl,hmap⟩;have HB:Hid (Below W1.heap.size W1 wr):=hB;have zI:=HW.out.1.next hB;by_cases hlt:k<CH.length
  ·obtain⟨sb,so,_,hv,_,s1⟩:=(HS.out wr zI).2 k hlt
   cases hv;obtain⟨hi0,hi1⟩:=HCH.out k hlt;obtain⟨i,hi⟩:∃i,CH.getD k 0=i:=⟨_,rfl⟩;rw[hi]at hi0 hi1 s1;obtain⟨q,rfl⟩:∃q:Nat,i=q:=⟨i.toNat,by omega⟩;have hq:q<R.length:=by omega
   obtain⟨b2,o2,UI,zJ,qc2,hv,_,k1,k2,hsy⟩:=zI.rules.jV hq;cases hv;have Nn:=H2.out q hq;obtain⟨⟨L2,l2⟩,hx2⟩:∃x,R.getD q (0,[])=x:=⟨_,rfl⟩;rw[hx2]at k1 k2 hsy Nn;simp only at k1 k2 hsy Nn;obtain⟨n2,hn2⟩:∃n,l2.length=n:=⟨_,rfl⟩;rw[hn2]at k2 hsy Nn
   have jZ:Hid ((CH.take (k+1)).map (fun i=>(L,l.take bn++(R.getD i.toNat (0,[])).2++l.drop (bn+1)))=(CH.take k).map (fun i=>(L,l.take bn++(R.getD i.toNat (0,[])).2++l.drop (bn+1)))++[(L,l.take bn++l2++l.drop (bn+1))]/\l2.length=n2):=by
    refine⟨?_,hn2⟩;rw[List.take_succ_eq_append_getElem hlt,List.map_append];have e:CH[k]=(q:Int):=by rw[<-hi];simp[List.getD,hlt]
    rw[e,List.map_cons,List.map_nil,Int.toNat_natCast,hx2]
   have ae4:Hid (∀wq,Below wr.heap.size wr wq->bG wq (.slice zJ n2 qc2) l2):=fun wq hB=>hsy.same (iH hB);have j0:(0:Int)<=(k:Int):=Int.natCast_nonneg _;have j1:(k:Int)<(CH.length:Int):=by omega
   have q0:(0:Int)<=(q:Int):=Int.natCast_nonneg _;have dP:Hid (wr.cell? ⟨b0,o0+q*2+1,none⟩=some (.slice zJ n2 qc2)):=k2;clear hP Nl hmap hx2 hn2 hsy hi zI hB k1 k2
   go_upto_region 6 with fail
   obtain⟨Wd,hWd⟩:∃W,wr.drew=W:=⟨_,rfl⟩;have hBd:Below wr.heap.size wr Wd:=by rw[<-hWd];exact(Below.refl _ _).drew
   have dH:Hid (Below wr.heap.size wr Wd):=hBd
   have fM:Hid (∀wq,Below Wd.heap.size Wd wq->wq.cell? ⟨rb,1,none⟩=some (.slice (some ad) (bn+1+m) qc)/\wq.cell? ⟨w.heap.size,5,none⟩=some (.int .i64 bn)/\wq.cell? ⟨w.heap.size,2,none⟩=some (.slice (some ⟨b0,o0,none⟩) R.length rc)/\wq.cell? ⟨b0,o0+q*2+1,none⟩=some (.slice zJ n2 qc2)):=fun wq hq=>by
    have h1:Below wr.heap.size wr wq:=dH.out.trans (hq.mono dH.out.size);have h2:Below W1.heap.size W1 wq:=HB.out.trans (h1.mono HB.out.size);have h3:=bV.out wq (HW.out.1.next h2);exact⟨(h2.cell (World.block_lt_of_cell? _ _ HW.out.2.2.1)).trans HW.out.2.2.1,h3.2.2.2.2.2.1,h3.2.2.1,(h1.cell (World.block_lt_of_cell? _ _ dP.out)).trans dP.out⟩
   have S0:=fM.out Wd (Below.refl _ _);clear hBd s1;refine lY [0,1,2,3,4,5,6,7,8,9,10,11,12,13,14,15,16,17,18,19,20,21,22] 3 25 (fun wq=>wq.cell? ⟨rb,1,none⟩=some (.slice (some ad) (bn+1+m) qc)/\wq.cell? ⟨w.heap.size,5,none⟩=some (.int .i64 bn)/\wq.cell? ⟨w.heap.size,2,none⟩=some (.slice (some ⟨b0,o0,none⟩) R.length rc)/\wq.cell? ⟨b0,o0+q*2+1,none⟩=some (.slice zJ n2 qc2)) (by kernel_rfl) (by kernel_rfl) (by rw[hWd];exact S0) ?_;rw[hWd];clear hWd S0
   iterate 23
    refine aO.vW (v:= ?_) rfl (by rfl) ?_ ?_;rotate_left
    ·intro w' hSw
     obtain⟨z0,z1,z2,z3⟩:=hSw
     go_simp
     try with_reducible rfl
    simp only[Act.put,List.setIfInBounds_toArray,List.set_cons_zero,List.set_cons_succ]
   rw[aO];have bW:Below Wd.heap.size Wd (Wd.alloc (.cells #[.slice (some ad) bn qc,.slice zJ n2 qc2,.slice A m (qc-(bn+1))] 89)):=(Below.refl _ _).alloc (Nat.le_refl _) _;refine ax.one (i:=23) (by kernel_rfl) ⟨_,rfl,fun K hK=> ?_⟩
   go_simp
   refine hK.out _ _ (fun _=>fM.out _ bW) ?_;clear hK;obtain⟨w5,je⟩:∃W,Wd.alloc (.cells #[.slice (some ad) bn qc,.slice zJ n2 qc2,.slice A m (qc-(bn+1))] 89)=W:=⟨_,rfl⟩;have p0:w5.cell? ⟨Wd.heap.size,0,none⟩=some (.slice (some ad) bn qc):=by rw[<-je];exact aB (heap_alloc_new _ _) rfl
   have p1:w5.cell? ⟨Wd.heap.size,1,none⟩=some (.slice zJ n2 qc2):=by rw[<-je];exact aB (heap_alloc_new _ _) rfl
   have p2:w5.cell? ⟨Wd.heap.size,2,none⟩=some (.slice A m (qc-(bn+1))):=by rw[<-je];exact aB (heap_alloc_new _ _) rfl
   rw[je]at bW⊢;clear je;have je:Below wr.heap.size wr w5:=dH.out.trans (bW.mono dH.out.size)
   have hs5:bG w5 (.slice (some ad) l.length qc) l:=by
    rw[HX.out.2];exact HW.out.2.2.2.2.1.same (iH (HB.out.trans (je.mono HB.out.size)))
   have hlt1:(l.take bn).length=bn:=by rw[List.length_take,HX.out.2];omega
   have hld:(l.drop (bn+1)).length=m:=by rw[List.length_drop,HX.out.2];omega
   have cc:=Vo p0 p1 p2 (hs5.BN (f:=bn) (by rw[HX.out.2];omega)) (ae4.out w5 je) (hs5.II HX.out.2 zq.out) (by rw[hlt1,hld,jZ.out.2];omega);rw[hlt1,hld,jZ.out.2]at cc;refine ax.one (i:=24) (by kernel_rfl) ⟨_,rfl,fun K hK=> ?_⟩
   go_simp
   refine cc.mono ?_;rintro e w6 ⟨a6,d6,rfl,hown6,aQ⟩;dsimp only;have fO:Below Wd.heap.size Wd w6:=bW.trans (aQ.mono bW.size);refine hK.out _ _ (fun _=>fM.out _ fO) ?_;clear hK cc;refine ax.last (i:=25) (by kernel_rfl) ⟨_,rfl,fun K hK=> ?_⟩
   go_simp
   refine hK.out _ _ (fun h=>absurd h (by omega)) (NoPanic.normal ?_);have Jf:Below wr.heap.size wr w6:=dH.out.trans (fO.mono dH.out.size);have t0:=((HB.out.trans (Jf.mono HB.out.size)).cell (World.block_lt_of_cell? _ _ HW.out.2.1)).trans HW.out.2.1;have hrow:eO (w6.alloc (.cells #[.int .i64 L,.slice a6 (bn+n2+m) d6] 91)) (.slice (some ⟨w6.heap.size,0,none⟩) 1 1) 1 [.int .i64 L,.slice a6 (bn+n2+m) d6]:=BJ;have fJ:Below wr.heap.size wr (w6.alloc (.cells #[.int .i64 L,.slice a6 (bn+n2+m) d6] 91)):=Jf.alloc Jf.size _;have Wq:=(HP.out.1.below fJ).own;have Ep:W1.heap.size<=(w6.alloc (.cells #[.int .i64 L,.slice a6 (bn+n2+m) d6] 91)).heap.size:=Nat.le_trans HB.out.size fJ.size;have hl7:PL.length+1<=100000:=by rw[HP.out.2.1];omega
   have H8:Hid (Below wr.heap.size wr (w6.alloc (.cells #[.int .i64 L,.slice a6 (bn+n2+m) d6] 91))):=fJ
   have uh:Hid (w6.ownsRow wr.heap.size 116 2 (.slice a6 (bn+n2+m) d6) (bn+n2+m) (aR (l.take bn++l2++l.drop (bn+1)))/\(l.take bn++l2++l.drop (bn+1)).length=bn+n2+m):=by
    refine⟨jf hown6 je.size,?_⟩;rw[List.length_append,List.length_append,hlt1,hld,jZ.out.2]
   clear hK p0 p1 p2 hs5 hown6 aQ fO bW je Jf fJ hlt1 hld
   go_wp2_with
    (at_builtin
     refine EH rfl _ _ rfl rfl rfl rfl Wq hrow Ep hl7 ?_
     intro a' d' w8 ae5 hgrow hat)
   go_roundw
   case rel=>
    refine⟨k+1,_,PL++[(.slice a6 (bn+n2+m) d6,(L,l.take bn++l2++l.drop (bn+1)))],rfl,by go_num,by omega,?_,by rw[List.length_append,HP.out.2.1];rfl,by rw[List.map_append,HP.out.2.2,jZ.out.1];rfl,?_⟩
    ·refine HP.out.1.IK (w5:=w6.alloc (.cells #[.int .i64 L,.slice a6 (bn+n2+m) d6] 91)) HB.out.size H8.out ?_ hgrow ?_ (fun g hg=>(hat g hg).imp id fun e=>by omega)
     ·rw[uh.out.2]
      exact uh.out.1.alloc _
     ·rw[BI]
      exact ae5
    ·exact(HB.out.trans (H8.out.mono HB.out.size)).grown hgrow Ep fun g hg=>(Wq.lt g hg).1
   case measure=>simp[intOf];omega
  ·have hkk:k=CH.length:=by omega
   have cop:=IE (w:=wr) (T:=T) (N:=N) (op:=op) (a:=ka) (b:=bn) (c:=c) (zI.rules.mono (Nat.le_trans (by omega) zI.size)) hl H2.out;obtain⟨x0,x1,x2,x3,x4,x5,x6,x7⟩:=bV.out wr zI;have ET:Hid (k=CH.length):=hkk;obtain⟨pa,pc,hpv⟩:=bK hP.own;subst hpv;clear hP Nl hmap hB hkk zI
   go_upto_region 10 with(go_at_call 225;refine cop.mono ?_;rintro e w3 ⟨lv,RL,rfl,hO,hmap,hB3⟩;clear cop)
   have hlen:RL.length=R.length:=by rw[<-hmap,List.length_map]
   obtain⟨g,cap,hlv,hg0,_⟩:=hO.pX.form (by omega);subst hlv;obtain⟨mm,hmm⟩:∃mm,R.length=ka+1+mm:=⟨R.length-(ka+1),by omega⟩
   have hcap:RL.length<=cap:=by
    obtain⟨_,⟨hv,_⟩|⟨_,_,_,hv,_,_,hle,_⟩⟩:=hO.pX
    ·cases hv
    ·cases hv;exact hle
   have hR2:aM w3 W1.heap.size (.slice (some ⟨g,0,none⟩) RL.length cap) RL:=hO.EJ.mono HB.out.size;have HM:Hid ((RL.map fun x=>x.2)=R/\RL.length=R.length):=⟨hmap,hlen⟩;rw[hlen];rw[hlen]at hcap;have ad1:=fun w=>aeX (g:=g) (f:=ka) (sl:=R.length) (lc:=cap) (fi:=(ka:Int)) rfl (by omega) w;obtain⟨A2,hA2,EU⟩:=aeY (la:=some ⟨g,0,none⟩) (f:=ka+1) (n:=mm) (sl:=R.length) (lc:=cap) (fi:=(ka:Int)+1) (by push_cast;rfl) hmm;have ae6:Hid (cap≠ka+1->A2=(some (⟨g,0,none⟩:Addr)).map (·.add ((ka+1)*2))):=EU;have i6:IntKind.i64.wrap ((ka:Int)+1)=(ka:Int)+1:=IntWalk.i64_in _ (by omega);obtain⟨Wd,hWd⟩:∃W,w3.drew=W:=⟨_,rfl⟩;have hBd:Below w3.heap.size w3 Wd:=by rw[<-hWd];exact(Below.refl _ _).drew
   have HB3:Hid (Below W1.heap.size W1 w3):=HB.out.trans (hB3.mono HB.out.size);have dH:Hid (Below W1.heap.size W1 Wd):=HB3.out.trans (hBd.mono HB3.out.size);have dN:Hid (aM Wd W1.heap.size (.slice (some ⟨g,0,none⟩) RL.length cap) RL/\aM Wd W1.heap.size (.slice pa PL.length pc) PL):=⟨hR2.below hBd,(HP.out.1.below hB3).below hBd⟩;have dU:Hid (∀wq,Below Wd.heap.size Wd wq->bI w cs 258 (some ⟨b0,o0,none⟩) rc R wq):=fun wq hq=>HW.out.1.next (dH.out.trans (hq.mono dH.out.size))
   have fM:Hid (∀wq,Below Wd.heap.size Wd wq->wq.cell? ⟨w.heap.size,0,none⟩=some (.int .i64 T)/\wq.cell? ⟨w.heap.size,1,none⟩=some (.int .i64 N)/\wq.cell? ⟨w.heap.size,2,none⟩=some (.slice (some ⟨b0,o0,none⟩) R.length rc)/\wq.cell? ⟨w.heap.size,3,none⟩=some (.int .i64 op)/\wq.cell? ⟨w.heap.size,4,none⟩=some (.int .i64 ka)/\wq.cell? ⟨w.heap.size,5,none⟩=some (.int .i64 bn)/\wq.cell? ⟨w.heap.size,6,none⟩=some (.int .i64 c)):=fun wq hq=>
    let h:=bV.out wq (dU.out wq hq)
    ⟨h.1,h.2.1,h.2.2.1,h.2.2.2.1,h.2.2.2.2.1,h.2.2.2.2.2.1,h.2.2.2.2.2.2.1⟩
   have S0:=fM.out Wd (Below.refl _ _);have Np:Hid (R.length=ka+1+mm):=hmm;clear hO hmap hlen hB3 hBd hR2 EU x0 x1 x2 x3 x4 x5 x6 x7 hmm;refine lY [0,1,2,3,4,5,6,7,8,9,10,11,12,13,14,15,16,17,18,19] 4 23 (fun wq=>wq.cell? ⟨w.heap.size,0,none⟩=some (.int .i64 T)/\wq.cell? ⟨w.heap.size,1,none⟩=some (.int .i64 N)/\wq.cell? ⟨w.heap.size,2,none⟩=some (.slice (some ⟨b0,o0,none⟩) R.length rc)/\wq.cell? ⟨w.heap.size,3,none⟩=some (.int .i64 op)/\wq.cell? ⟨w.heap.size,4,none⟩=some (.int .i64 ka)/\wq.cell? ⟨w.heap.size,5,none⟩=some (.int .i64 bn)/\wq.cell? ⟨w.heap.size,6,none⟩=some (.int .i64 c)) (by kernel_rfl) (by kernel_rfl) (by rw[hWd];exact S0) ?_;rw[hWd];clear hWd S0
   iterate 20
    refine aO.vW (v:= ?_) rfl (by rfl) ?_ ?_;rotate_left
    ·intro w' hSw
     obtain⟨z0,z1,z2,z3,z4,z5,z6⟩:=hSw
     go_simp
     try with_reducible rfl
    simp only[Act.put,List.setIfInBounds_toArray,List.set_cons_zero,List.set_cons_succ]
   rw[aO];have bW:Below Wd.heap.size Wd (Wd.alloc (.cells #[.slice (some ⟨g,0,none⟩) ka cap,.slice pa PL.length pc,.slice A2 mm (cap-(ka+1))] 24)):=(Below.refl _ _).alloc (Nat.le_refl _) _;refine ax.one (i:=20) (by kernel_rfl) ⟨_,rfl,fun K hK=> ?_⟩
   go_simp
   refine hK.out _ _ (fun _=>fM.out _ bW) ?_;clear hK;obtain⟨w5,je⟩:∃W,Wd.alloc (.cells #[.slice (some ⟨g,0,none⟩) ka cap,.slice pa PL.length pc,.slice A2 mm (cap-(ka+1))] 24)=W:=⟨_,rfl⟩;have p0:w5.cell? ⟨Wd.heap.size,0,none⟩=some (.slice (some ⟨g,0,none⟩) ka cap):=by rw[<-je];exact aB (heap_alloc_new _ _) rfl
   have p1:w5.cell? ⟨Wd.heap.size,1,none⟩=some (.slice pa PL.length pc):=by rw[<-je];exact aB (heap_alloc_new _ _) rfl
   have p2:w5.cell? ⟨Wd.heap.size,2,none⟩=some (.slice A2 mm (cap-(ka+1))):=by rw[<-je];exact aB (heap_alloc_new _ _) rfl
   rw[je]at bW⊢;clear je;have qh:=dN.out.1.below bW;have xK:=dN.out.2.below bW;have e1:=qh.rowAt.take (f:=ka) (by rw[HM.out.2];omega);have e2:=qh.rowAt.drop (f:=ka+1) (m:=mm) (by rw[HM.out.2];exact Np.out) ae6.out;rw[ae0]at e1;rw[ae1]at e2;have cc:=ae2 p0 p1 p2 e1 xK.rowAt e2 (by rw[HP.out.2.1];have:=Np.out;omega);rw[<-MP,<-MP]at cc;refine ax.one (i:=21) (by kernel_rfl) ⟨_,rfl,fun K hK=> ?_⟩
   go_simp
   refine cc.mono ?_;rintro e w6 ⟨a6,d6,rfl,hown6,aQ⟩;dsimp only;have fO:Below Wd.heap.size Wd w6:=bW.trans (aQ.mono bW.size);refine hK.out _ _ (fun _=>fM.out _ fO) ?_;clear hK cc
   have hlK:(RL.take ka++PL++RL.drop (ka+1)).length=ka+PL.length+mm:=by
    rw[List.length_append,List.length_append,List.length_take,List.length_drop,HM.out.2];have:=Np.out;omega
   have yj:aM w6 W1.heap.size (.slice a6 (ka+PL.length+mm) d6) (RL.take ka++PL++RL.drop (ka+1)):=by
    refine qh.cat xK (Nat.le_trans dH.out.size bW.size) aQ (by rw[hlK];exact hown6) fun x hx=> ?_;rcases List.mem_append.1 hx with hx|hx
    ·rcases List.mem_append.1 hx with hx|hx
     ·exact .inl (List.mem_of_mem_take hx)
     ·exact .inr hx
    ·exact .inl (List.mem_of_mem_drop hx)
   have wi:=EI (w:=w6) (T:=T) (N:=N) (ra:=some ⟨b0,o0,none⟩) (rn:=R.length) (rc:=rc) (op:=op) (a:=ka) (b:=bn) (c:=c) (M:=N) (oa:=a6) (on:=ka+PL.length+mm) (oc:=d6);refine ax.one (i:=22) (by kernel_rfl) ⟨_,rfl,fun K hK=> ?_⟩
   go_simp
   refine wi.mono ?_;rintro e w7 ⟨rfl,fJ⟩;dsimp only;have Wt:Below Wd.heap.size Wd w7:=fO.trans (fJ.mono fO.size);refine hK.out _ _ (fun _=>fM.out _ Wt) ?_;clear hK wi;have fF:Hid (bI w cs 258 (some ⟨b0,o0,none⟩) rc R w7):=dU.out w7 Wt;have sU:Hid (aM w7 (w.heap.size+2) (.slice a6 (ka+PL.length+mm) d6) (RL.take ka++PL++RL.drop (ka+1))):=(yj.below fJ).mono HW.out.2.2.2.2.2;have z0:=fF.out.y0;have z1:=fF.out.y1;have z2:=fF.out.y2;have V8:=fF.out.yf 0;have V9:=fF.out.yf 1;have Wh:=fF.out.yf 2;refine ax.last (i:=23) (by kernel_rfl) ⟨_,rfl,fun K hK=> ?_⟩
   go_simp
   refine hK.out _ _ (fun h=>absurd h (by omega)) (NoPanic.normal ?_);have q0:=uq (v0:= .int .i64 T) (v1:= .int .i64 N) (v2:= .slice a6 (ka+PL.length+mm) d6) z0;have q1:=uw (v0:= .int .i64 T) (v1:= .int .i64 N) (v2:= .slice a6 (ka+PL.length+mm) d6) z1;have q2:=uy (v0:= .int .i64 T) (v1:= .int .i64 N) (v2:= .slice a6 (ka+PL.length+mm) d6) z2;clear hK
   go_wp2_with fail
   refine bodyPost_ret (v:= .agg #[.int .i64 T,.int .i64 N,.slice a6 (ka+PL.length+mm) d6]) (by simp[results,Tryz.results237,go_sem,q0,q1,q2]) rfl ?_;have ho:=fF.out.out sU.out (.int .i64 T) (.int .i64 N) (.slice a6 (ka+PL.length+mm) d6);refine⟨_,_,rfl,ho.1,?_,ho.2⟩;rw[List.map_append,List.map_append,List.map_take,List.map_drop,HM.out.1,HP.out.2.2,ET.out,List.take_length]
theorem ae7{w:World}{T:Int}{N:Nat}{ra:Option Addr}{rc:Nat}{op a b c:Int}{R:List Ru}(hr:au w w.heap.size (.slice ra R.length rc) R)(h0:0<R.length)(hl:R.length<=1000)(hl2:∀q,q<R.length->(R.getD q (0,[])).2.length<=1000)(hN:N<=1000):
 Calls Tryz.prog 242 #[.agg #[.int .i64 T,.int .i64 N,.slice ra R.length rc,.int .i64 op,.int .i64 a,.int .i64 b,.int .i64 c]] w fun e w'=> ∃lv RL,e= .returned (.agg #[.int .i64 T,.int .i64 (N+1),lv])/\aM w' w.heap.size lv RL/\(RL.map fun x=>x.2)=R.map (qd N a)++[((N:Int),[])]/\Below w.heap.size w w':=by
 obtain⟨cs,hcs⟩:∃cs:Array Value,#[.int .i64 T,.int .i64 N,.slice ra R.length rc,.int .i64 op,.int .i64 a,.int .i64 b,.int .i64 c]=cs:=⟨_,rfl⟩;have hC0:bI w cs 259 ra rc R ((w.alloc (.cells cs 259)).alloc (.cells #[.int .i64 0,.int .i64 0,.slice none 0 0] 26)):=IG hr;rw[<-hcs]at hC0;obtain⟨W0,hW0⟩:∃W,(w.alloc (.cells #[.int .i64 T,.int .i64 N,.slice ra R.length rc,.int .i64 op,.int .i64 a,.int .i64 b,.int .i64 c] 259)).alloc (.cells #[.int .i64 0,.int .i64 0,.slice none 0 0] 26)=W:=⟨_,rfl⟩;rw[hW0,hcs]at hC0;have tZ:Hid (#[.int .i64 T,.int .i64 N,.slice ra R.length rc,.int .i64 op,.int .i64 a,.int .i64 b,.int .i64 c]=cs):=hcs
 have bV:Hid (∀wq,bI w cs 259 ra rc R wq->wq.cell? ⟨w.heap.size,0,none⟩=some (.int .i64 T)/\wq.cell? ⟨w.heap.size,1,none⟩=some (.int .i64 N)/\wq.cell? ⟨w.heap.size,2,none⟩=some (.slice ra R.length rc)/\wq.cell? ⟨w.heap.size,3,none⟩=some (.int .i64 op)/\wq.cell? ⟨w.heap.size,4,none⟩=some (.int .i64 a)/\wq.cell? ⟨w.heap.size,5,none⟩=some (.int .i64 b)/\wq.cell? ⟨w.heap.size,6,none⟩=some (.int .i64 c)):=fun wq hq=>by
  refine⟨hq.cell ?_,hq.cell ?_,hq.cell ?_,hq.cell ?_,hq.cell ?_,hq.cell ?_,hq.cell ?_⟩<;>(rw[<-tZ.out];rfl)
 have hmono:∀{wq:World},bI w cs 259 ra rc R wq->au wq wq.heap.size (.slice ra R.length rc) R:=fun {wq} hq=>hq.rules.mono (Nat.le_trans (by omega) hq.size);have ae8:Hid (∀{wq:World},bI w cs 259 ra rc R wq->au wq wq.heap.size (.slice ra R.length rc) R):=hmono;obtain⟨x0,x1,x2,x3,x4,x5,x6⟩:=bV.out W0 hC0;have cop:=IE (w:=W0) (T:=T) (N:=N) (op:=op) (a:=a) (b:=b) (c:=c) (hmono hC0) hl hl2;obtain⟨b0,o0,_,_,_,hv,_⟩:=hC0.rules.2 0 h0;cases hv;have jL:Hid (bI w cs 259 (some ⟨b0,o0,none⟩) rc R W0):=hC0;have H2:Hid (∀q,q<R.length->(R.getD q (0,[])).2.length<=1000):=hl2;have hml:∀w3:World,∃W,w3.alloc (.cells #[.bool false,.int .i64 N] 116)=W:=fun _=>⟨_,rfl⟩;clear hr hl2 hC0 hcs hmono
 go_enter Tryz.func242,Tryz.ntmps242
 go_wp2_with
  (first
   |(go_at_call 225;refine cop.mono ?_;rintro e wq ⟨lv,RL,rfl,hO,hmap,mr⟩;clear cop
     have vL:Hid (Below W0.heap.size W0 wq):=mr;have HO:Hid (ah wq W0.heap.size (gQ lv RL)/\(RL.map fun x=>x.2)=R):=⟨hO,hmap⟩;obtain⟨v0,v1,v2,v3,v4,v5,v6⟩:=bV.out wq (jL.out.next mr);have mo:=zx (w:=wq) (T:=T) (N:=N) (ra:=some ⟨b0,o0,none⟩) (rn:=R.length) (rc:=rc) (op:=op) (a:=a) (b:=b) (c:=c)
     clear mr hO hmap x0 x1 x2 x3 x4 x5 x6 hW0)
   |(go_at_call 233;refine mo.mono ?_;rintro e w3 ⟨rfl,hB3⟩;clear mo
     have Wu:=(jL.out.next vL.out).next (hB3.alloc hB3.size (.cells #[.bool false,.int .i64 N] 116));obtain⟨u0,u1,u2,u3,u4,u5,u6⟩:=bV.out _ Wu;have HB3:Hid (Below wq.heap.size wq w3):=hB3
     clear v0 v1 v2 v3 v4 v5 v6 Wu hB3))
 have hlen:RL.length=R.length:=by rw[<-HO.out.2,List.length_map]
 obtain⟨g,cap,hlv,hg0,hg1⟩:=HO.out.1.pX.form (by omega);subst hlv
 have vJ:OL w cs (some ⟨b0,o0,none⟩) rc R N a g cap w3.heap.size 0 RL (w3.alloc (.cells #[.bool false,.int .i64 N] 116)):=by
  have hB4:Below wq.heap.size wq (w3.alloc (.cells #[.bool false,.int .i64 N] 116)):=HB3.out.alloc HB3.out.size _;refine⟨(jL.out.next vL.out).next hB4,(HO.out.1.EJ.mono jL.out.size).below hB4,hlen,by rw[HO.out.2];simp,heap_alloc_new _ _,?_,Nat.le_trans jL.out.size hg0⟩;have:=HB3.out.size;omega
 rw[hlen];clear u0 u1 u2 u3 u4 u5 u6 HO vL HB3 hlen hg0 hg1;obtain⟨eb,Wv⟩:∃x,w3.heap.size=x:=⟨_,rfl⟩;obtain⟨w4,hw4⟩:∃W,w3.alloc (.cells #[.bool false,.int .i64 N] 116)=W:=⟨_,rfl⟩;rw[hw4]at vJ⊢;rw[Wv]at vJ⊢;clear hw4 Wv hml;have HOL:Hid (OL w cs (some ⟨b0,o0,none⟩) rc R N a g cap eb 0 RL w4):=vJ;clear vJ
 go_loopw [19] (fun s19 wr=> ∃(k:Nat) (RK:List (Value×Ru)),s19= .int .i64 k/\k<=R.length/\OL w cs (some ⟨b0,o0,none⟩) rc R N a g cap eb k RK wr) (fun s _=>R.length-(intOf s).toNat)
 case atStart=>exact⟨0,RL,rfl,Nat.zero_le _,HOL.out⟩
 case round=>
  obtain⟨k,RK,rfl,hk,hK⟩:=hrel;clear HOL;have HK:Hid (OL w cs (some ⟨b0,o0,none⟩) rc R N a g cap eb k RK wr):=hK;by_cases hlt:k<R.length
  ·obtain⟨b1,o1,rc1,qa,qc,hv,_,k1,k2,hsy⟩:=hK.box.rules.jV hlt
   cases hv;have kD:=H2.out k hlt;obtain⟨⟨L,l⟩,hx⟩:∃x,R.getD k (0,[])=x:=⟨_,rfl⟩;rw[hx]at k1 k2 hsy kD;simp only at k1 k2 hsy kD;obtain⟨n,hn⟩:∃n,l.length=n:=⟨_,rfl⟩;rw[hn]at k2 hsy kD;have HX:Hid (R.getD k (0,[])=(L,l)/\R[k]=(L,l)/\l.length=n):=⟨hx,by rw[<-hx];simp[List.getD,hlt],hn⟩;obtain⟨W1,hW1⟩:∃W,wr.alloc (.cells #[.int .i64 L,.slice qa n qc] 91)=W:=⟨_,rfl⟩;obtain⟨rb,hrb⟩:∃x,wr.heap.size=x:=⟨_,rfl⟩;have hB1:Below wr.heap.size wr W1:=by rw[<-hW1];exact(Below.refl _ _).alloc (Nat.le_refl _) _
   have r0:W1.cell? ⟨rb,0,none⟩=some (.int .i64 L):=by rw[<-hW1,<-hrb];exact aB (heap_alloc_new _ _) rfl
   have r1:W1.cell? ⟨rb,1,none⟩=some (.slice qa n qc):=by rw[<-hW1,<-hrb];exact aB (heap_alloc_new _ _) rfl
   have hK1:=hK.next hB1;have be:=Vq (w:=W1) (T:=T) (N:=N) (op:=op) (a:=a) (b:=b) (c:=c) (ae8.out hK1.box) hlt;rw[hx]at be;obtain⟨x0,x1,x2,x3,x4,x5,x6⟩:=bV.out W1 hK1.box;have jH:Hid (∀wq,Below wr.heap.size wr wq->bG wq (.slice qa n qc) l):=fun wq hB=>hsy.same (iH hB);have HB1:Hid (Below wr.heap.size wr W1):=hB1;have HR:Hid (W1.cell? ⟨rb,0,none⟩=some (.int .i64 L)/\W1.cell? ⟨rb,1,none⟩=some (.slice qa n qc)):=⟨r0,r1⟩;have i0:(0:Int)<=(k:Int):=Int.natCast_nonneg _;have i1:(k:Int)<(R.length:Int):=by omega
   clear hK hx hn hsy hB1 hK1 r0 r1;cases hbe:iY a (L,l) with
   |true=>
    obtain⟨uz,EY⟩:L=a/\vV (L,l)=true:=by
     unfold iY at hbe;simp only[Bool.and_eq_true,decide_eq_true_eq]at hbe;exact hbe
    subst uz;rw[hbe]at be;have qI:Hid (vV (L,l)=true):=EY
    have hn0:0<l.length:=by
     unfold vV at EY;simp only[Bool.and_eq_true,decide_eq_true_eq]at EY;exact EY.1.1
    rw[HX.out.2.2]at hn0;obtain⟨n,rfl⟩:∃m,n=m+1:=⟨n-1,by omega⟩;have BX:Hid ((l.drop 1).length=n):=by show _=_;rw[List.length_drop,HX.out.2.2];omega
    obtain⟨A,hA,hA'⟩:=MK (la:=qa) (f:=1) (n:=n) (sl:=n+1) (lc:=qc) (fi:=1) rfl (by omega);have zq:Hid (qc≠1->A=qa.map (·.add (1*2))):=hA';clear hbe EY hn0 hA'
    go_upto_region 7 with
     (go_at_call 173;refine be.mono ?_;rintro e w2 ⟨rfl,hB2⟩;clear be)
    obtain⟨Wd,hWd⟩:∃W,w2.drew=W:=⟨_,rfl⟩;have Nq:Below W1.heap.size W1 Wd:=by rw[<-hWd];exact hB2.drew
    have hBd:Below wr.heap.size wr Wd:=HB1.out.trans (Nq.mono HB1.out.size);have iZ:Hid (OL w cs (some ⟨b0,o0,none⟩) rc R N L g cap eb k RK Wd):=HK.out.next hBd
    have HS:Hid (∀wq,Below Wd.heap.size Wd wq->(wq.cell? ⟨w.heap.size,0,none⟩=some (.int .i64 T)/\wq.cell? ⟨w.heap.size,1,none⟩=some (.int .i64 N)/\wq.cell? ⟨w.heap.size,2,none⟩=some (.slice (some ⟨b0,o0,none⟩) R.length rc)/\wq.cell? ⟨w.heap.size,3,none⟩=some (.int .i64 op)/\wq.cell? ⟨w.heap.size,4,none⟩=some (.int .i64 L)/\wq.cell? ⟨w.heap.size,5,none⟩=some (.int .i64 b)/\wq.cell? ⟨w.heap.size,6,none⟩=some (.int .i64 c))/\wq.cell? ⟨rb,1,none⟩=some (.slice qa (n+1) qc)):=fun wq hq=>by
     refine⟨bV.out wq (iZ.out.next hq).box,?_⟩;have h1:=(Nq.cell (World.block_lt_of_cell? _ _ HR.out.2)).trans HR.out.2;exact(hq.cell (World.block_lt_of_cell? _ _ h1)).trans h1
    have Ww:Hid (∀wq,Below Wd.heap.size Wd wq->bG wq (.slice A n (qc-1)) (l.drop 1)):=fun wq hq=>by
     have h1:=jH.out wq (hBd.trans (hq.mono hBd.size));rw[<-HX.out.2.2]at h1;exact h1.II (by rw[HX.out.2.2];omega) zq.out
    have S0:=HS.out Wd (Below.refl _ _);clear hB2 Nq hBd x0 x1 x2 x3 x4 x5 x6 k1 k2 hW1 hrb;refine lY [0,1,2,3,6,7,8,9] 7 14 (fun wq=>(wq.cell? ⟨w.heap.size,0,none⟩=some (.int .i64 T)/\wq.cell? ⟨w.heap.size,1,none⟩=some (.int .i64 N)/\wq.cell? ⟨w.heap.size,2,none⟩=some (.slice (some ⟨b0,o0,none⟩) R.length rc)/\wq.cell? ⟨w.heap.size,3,none⟩=some (.int .i64 op)/\wq.cell? ⟨w.heap.size,4,none⟩=some (.int .i64 L)/\wq.cell? ⟨w.heap.size,5,none⟩=some (.int .i64 b)/\wq.cell? ⟨w.heap.size,6,none⟩=some (.int .i64 c))/\wq.cell? ⟨rb,1,none⟩=some (.slice qa (n+1) qc)) (by kernel_rfl) (by kernel_rfl) (by rw[hWd];exact S0) ?_;rw[hWd];clear hWd S0
    iterate 8
     refine aO.vW (v:= ?_) rfl (by rfl) ?_ ?_;rotate_left
     ·intro w' hSw
      obtain⟨⟨z0,z1,z2,z3,z4,z5,z6⟩,z7⟩:=hSw
      go_simp
      try with_reducible rfl
     simp only[Act.put,List.setIfInBounds_toArray,List.set_cons_zero,List.set_cons_succ]
    rw[aO];refine ax.two (i:=4) (i':=10) (by kernel_rfl) ⟨_,rfl,fun K hK=> ?_⟩ ⟨_,rfl,fun K hK=> ?_⟩
    ·have mo:=zx (w:=Wd) (T:=T) (N:=N) (ra:=some ⟨b0,o0,none⟩) (rn:=R.length) (rc:=rc) (op:=op) (a:=L) (b:=b) (c:=c)
     go_simp
     refine mo.mono ?_;rintro e w3 ⟨rfl,hB3⟩;dsimp only;refine hK.out _ _ (fun _=>HS.out w3 hB3) ?_;clear hK mo;refine ax.read (i:=5) (v:= .int .i64 N) rfl (by kernel_rfl) (by rfl) (fun w' _=>by unfold execOp;go_simp;unfold Instr.field asAgg;go_simp) (HS.out w3 hB3) ?_;simp only[Act.put,List.setIfInBounds_toArray,List.set_cons_zero,List.set_cons_succ];have bW:Below Wd.heap.size Wd (w3.alloc (.cells #[.slice A n (qc-1),.slice (some ⟨eb,0,none⟩) 1 1] 89)):=hB3.alloc hB3.size _;refine ax.one (i:=10) (by kernel_rfl) ⟨_,rfl,fun K hK=> ?_⟩
     go_simp
     refine hK.out _ _ (fun _=>HS.out _ bW) ?_;clear hK;have qg:(w3.alloc (.cells #[.slice A n (qc-1),.slice (some ⟨eb,0,none⟩) 1 1] 89)).cell? ⟨w3.heap.size,0,none⟩=some (.slice A n (qc-1)):=aB (heap_alloc_new _ _) rfl;have zK:(w3.alloc (.cells #[.slice A n (qc-1),.slice (some ⟨eb,0,none⟩) 1 1] 89)).cell? ⟨w3.heap.size,1,none⟩=some (.slice (some ⟨eb,0,none⟩) 1 1):=aB (heap_alloc_new _ _) rfl;obtain⟨pz,hpz⟩:∃x,w3.heap.size=x:=⟨_,rfl⟩;obtain⟨wz,hwz⟩:∃W,w3.alloc (.cells #[.slice A n (qc-1),.slice (some ⟨eb,0,none⟩) 1 1] 89)=W:=⟨_,rfl⟩;rw[hwz]at bW qg zK⊢;rw[hpz]at qg zK⊢;clear hwz hpz hB3;have cc:=MW (w:=wz) (pb:=pz) (va:= .slice A n (qc-1)) (vb:= .slice (some ⟨eb,0,none⟩) 1 1) (la:=l.drop 1) (lb:=[(false,(N:Int))]) qg zK (Ww.out wz bW) (iZ.out.next bW).ends (by rw[BX.out];simp only[List.length_singleton];omega);rw[BX.out]at cc;simp only[List.length_singleton]at cc;refine ax.one (i:=11) (by kernel_rfl) ⟨_,rfl,fun K hK=> ?_⟩
     go_simp
     refine cc.mono ?_;rintro e w6 ⟨a6,d6,rfl,hown6,aQ⟩;dsimp only;have fO:Below Wd.heap.size Wd w6:=bW.trans (aQ.mono bW.size);refine hK.out _ _ (fun _=>HS.out _ fO) ?_;clear hK cc;refine ax.one (i:=12) (by kernel_rfl) ⟨_,rfl,fun K hK=> ?_⟩
     go_simp
     refine hK.out _ _ (fun _=>HS.out _ fO) ?_;clear hK;refine ax.one (i:=13) (by kernel_rfl) ⟨_,rfl,fun K hK=> ?_⟩
     go_simp
     refine hK.out _ _ (fun _=>HS.out _ fO) ?_;clear hK;have fC:=iZ.out.next fO;have jJ:Hid (OL w cs (some ⟨b0,o0,none⟩) rc R N L g cap eb k RK w6):=fC;obtain⟨u,hu⟩:∃u,(cO RK)[k*2]?=some u:=⟨_,List.getElem?_eq_getElem (by rw[BH,fC.len];omega)⟩;obtain⟨u',hu'⟩:∃u,(cO RK)[k*2+1]?=some u:=⟨_,List.getElem?_eq_getElem (by rw[BH,fC.len];omega)⟩;have Nr:w6.cell? ⟨g,k*2,none⟩=some u:=(fC.rl.own.cellAt (k*2) (by rw[fC.len];omega)).trans hu;have Ns:w6.cell? ⟨g,k*2+1,none⟩=some u':=(fC.rl.own.cellAt (k*2+1) (by rw[fC.len];omega)).trans hu';have f60:w6.frozen? ⟨g,k*2,none⟩=false:=fC.rl.own.frozenAt (k*2);have f61:w6.frozen? ⟨g,k*2+1,none⟩=false:=fC.rl.own.frozenAt (k*2+1);refine ax.last (i:=14) (by kernel_rfl) ⟨_,rfl,fun K hK=> ?_⟩
     go_simp
     refine hK.out _ _ (fun h=>absurd h (by omega)) (NoPanic.normal ?_);have uh:Hid (w6.ownsRow wz.heap.size 116 2 (.slice a6 (n+1) d6) (n+1) (aR (l.drop 1++[(false,(N:Int))]))):=hown6;have EZ:Hid (Below Wd.heap.size Wd wz/\Below Wd.heap.size Wd w6):=⟨bW,fO⟩;clear hK hown6 aQ fO fC hu hu' qg zK bW Nr Ns f60 f61
     go_wp2_with fail
     go_roundw
     case rel=>
      have hkk:k<RK.length:=by rw[jJ.out.len];exact hlt
      have hll:(l.drop 1++[(false,(N:Int))]).length=n+1:=by rw[List.length_append,BX.out];rfl
      have hlo:Wd.heap.size<=wz.heap.size:=EZ.out.1.size;have hgl:g<Wd.heap.size:=(iZ.out.rl.own.lt g rfl).2;have hgs:=iZ.out.zD
      have E5:oG w6 (fun b=>w.heap.size+2<=b/\b≠g) (.slice a6 (n+1) d6) (l.drop 1++[(false,(N:Int))]):=by
       have:=uh.out;rw[<-hll]at this⊢;exact(BF this).kept (Nat.le_refl _) fun b hA _=>⟨rfl,by have:=hA.2;omega,by have:=hA.2;omega⟩
      have hS:=jJ.out.rl.V3 (k:=k) hkk N E5;refine⟨k+1,_,by go_num,by omega,iZ.out.set EZ.out.2 (fun b hb=>by rw[Below.heap_setCell _ _ _ _ hb,Below.heap_setCell _ _ _ _ hb]) (by simp) rfl rfl rfl hS (by rw[List.length_set]) ?_⟩;refine jJ.out.Ni hlt ?_;rw[HX.out.2.1];unfold qd;rw[if_pos rfl,qI.out,if_pos rfl]
     case measure=>simp[intOf];omega
    ·have sj:Below Wd.heap.size Wd (Wd.alloc (.cells #[.slice A n (qc-1),.slice (some ⟨eb,0,none⟩) 1 1] 89)):=(Below.refl _ _).alloc (Nat.le_refl _) _
     go_simp
     refine hK.out _ _ (fun _=>HS.out _ sj) ?_;clear hK;have su:(Wd.alloc (.cells #[.slice A n (qc-1),.slice (some ⟨eb,0,none⟩) 1 1] 89)).cell? ⟨Wd.heap.size,0,none⟩=some (.slice A n (qc-1)):=aB (heap_alloc_new _ _) rfl;have E8:(Wd.alloc (.cells #[.slice A n (qc-1),.slice (some ⟨eb,0,none⟩) 1 1] 89)).cell? ⟨Wd.heap.size,1,none⟩=some (.slice (some ⟨eb,0,none⟩) 1 1):=aB (heap_alloc_new _ _) rfl;obtain⟨pz,hpz⟩:∃x,Wd.heap.size=x:=⟨_,rfl⟩;obtain⟨wy,EX⟩:∃W,Wd.alloc (.cells #[.slice A n (qc-1),.slice (some ⟨eb,0,none⟩) 1 1] 89)=W:=⟨_,rfl⟩;rw[EX]at sj su E8⊢;rw[hpz]at su E8⊢;clear EX hpz;have mo:=zx (w:=wy) (T:=T) (N:=N) (ra:=some ⟨b0,o0,none⟩) (rn:=R.length) (rc:=rc) (op:=op) (a:=L) (b:=b) (c:=c);refine ax.one (i:=4) (by kernel_rfl) ⟨_,rfl,fun K hK=> ?_⟩
     go_simp
     refine mo.mono ?_;rintro e wz ⟨rfl,hB3⟩;dsimp only;have bW:Below Wd.heap.size Wd wz:=sj.trans (hB3.mono sj.size);have qg:=(hB3.cell (World.block_lt_of_cell? _ _ su)).trans su;have zK:=(hB3.cell (World.block_lt_of_cell? _ _ E8)).trans E8;refine hK.out _ _ (fun _=>HS.out wz bW) ?_;clear hK mo;refine ax.read (i:=5) (v:= .int .i64 N) rfl (by kernel_rfl) (by rfl) (fun w' _=>by unfold execOp;go_simp;unfold Instr.field asAgg;go_simp) (HS.out wz bW) ?_;simp only[Act.put,List.setIfInBounds_toArray,List.set_cons_zero,List.set_cons_succ];clear hB3 sj su E8;have cc:=MW (w:=wz) (pb:=pz) (va:= .slice A n (qc-1)) (vb:= .slice (some ⟨eb,0,none⟩) 1 1) (la:=l.drop 1) (lb:=[(false,(N:Int))]) qg zK (Ww.out wz bW) (iZ.out.next bW).ends (by rw[BX.out];simp only[List.length_singleton];omega);rw[BX.out]at cc;simp only[List.length_singleton]at cc;refine ax.one (i:=11) (by kernel_rfl) ⟨_,rfl,fun K hK=> ?_⟩
     go_simp
     refine cc.mono ?_;rintro e w6 ⟨a6,d6,rfl,hown6,aQ⟩;dsimp only;have fO:Below Wd.heap.size Wd w6:=bW.trans (aQ.mono bW.size);refine hK.out _ _ (fun _=>HS.out _ fO) ?_;clear hK cc;refine ax.one (i:=12) (by kernel_rfl) ⟨_,rfl,fun K hK=> ?_⟩
     go_simp
     refine hK.out _ _ (fun _=>HS.out _ fO) ?_;clear hK;refine ax.one (i:=13) (by kernel_rfl) ⟨_,rfl,fun K hK=> ?_⟩
     go_simp
     refine hK.out _ _ (fun _=>HS.out _ fO) ?_;clear hK;have fC:=iZ.out.next fO;have jJ:Hid (OL w cs (some ⟨b0,o0,none⟩) rc R N L g cap eb k RK w6):=fC;obtain⟨u,hu⟩:∃u,(cO RK)[k*2]?=some u:=⟨_,List.getElem?_eq_getElem (by rw[BH,fC.len];omega)⟩;obtain⟨u',hu'⟩:∃u,(cO RK)[k*2+1]?=some u:=⟨_,List.getElem?_eq_getElem (by rw[BH,fC.len];omega)⟩;have Nr:w6.cell? ⟨g,k*2,none⟩=some u:=(fC.rl.own.cellAt (k*2) (by rw[fC.len];omega)).trans hu;have Ns:w6.cell? ⟨g,k*2+1,none⟩=some u':=(fC.rl.own.cellAt (k*2+1) (by rw[fC.len];omega)).trans hu';have f60:w6.frozen? ⟨g,k*2,none⟩=false:=fC.rl.own.frozenAt (k*2);have f61:w6.frozen? ⟨g,k*2+1,none⟩=false:=fC.rl.own.frozenAt (k*2+1);refine ax.last (i:=14) (by kernel_rfl) ⟨_,rfl,fun K hK=> ?_⟩
     go_simp
     refine hK.out _ _ (fun h=>absurd h (by omega)) (NoPanic.normal ?_);have uh:Hid (w6.ownsRow wz.heap.size 116 2 (.slice a6 (n+1) d6) (n+1) (aR (l.drop 1++[(false,(N:Int))]))):=hown6;have EZ:Hid (Below Wd.heap.size Wd wz/\Below Wd.heap.size Wd w6):=⟨bW,fO⟩;clear hK hown6 aQ fO fC hu hu' qg zK bW Nr Ns f60 f61
     go_wp2_with fail
     go_roundw
     case rel=>
      have hkk:k<RK.length:=by rw[jJ.out.len];exact hlt
      have hll:(l.drop 1++[(false,(N:Int))]).length=n+1:=by rw[List.length_append,BX.out];rfl
      have hlo:Wd.heap.size<=wz.heap.size:=EZ.out.1.size;have hgl:g<Wd.heap.size:=(iZ.out.rl.own.lt g rfl).2;have hgs:=iZ.out.zD
      have E5:oG w6 (fun b=>w.heap.size+2<=b/\b≠g) (.slice a6 (n+1) d6) (l.drop 1++[(false,(N:Int))]):=by
       have:=uh.out;rw[<-hll]at this⊢;exact(BF this).kept (Nat.le_refl _) fun b hA _=>⟨rfl,by have:=hA.2;omega,by have:=hA.2;omega⟩
      have hS:=jJ.out.rl.V3 (k:=k) hkk N E5;refine⟨k+1,_,by go_num,by omega,iZ.out.set EZ.out.2 (fun b hb=>by rw[Below.heap_setCell _ _ _ _ hb,Below.heap_setCell _ _ _ _ hb]) (by simp) rfl rfl rfl hS (by rw[List.length_set]) ?_⟩;refine jJ.out.Ni hlt ?_;rw[HX.out.2.1];unfold qd;rw[if_pos rfl,qI.out,if_pos rfl]
     case measure=>simp[intOf];omega
   |false=>
    rw[hbe]at be;have kP:Hid (iY a (L,l)=false):=hbe;clear hbe;by_cases uz:L=a
    ·subst uz
     have e1:(L==L)=true:=by simp
     go_wp2_with
      (first
       |(go_at_call 173;refine be.mono ?_;rintro e w2 ⟨rfl,hB2⟩;clear be
         have hB2':Below wr.heap.size wr w2:=HB1.out.trans (hB2.mono HB1.out.size);have c4:=(bV.out w2 (HK.out.next hB2').box).2.2.2.2.1;have c0:=(hB2.cell (World.block_lt_of_cell? _ _ HR.out.1)).trans HR.out.1;have c1:=(hB2.cell (World.block_lt_of_cell? _ _ HR.out.2)).trans HR.out.2;have hB3:Below w2.heap.size w2 (w2.alloc (.cells #[.slice qa n qc,.slice (some ⟨eb,0,none⟩) 1 1] 89)):=(Below.refl _ _).alloc (Nat.le_refl _) _;have Jg:=hB2'.trans (hB3.mono hB2'.size);have cc:=MW (w:=w2.alloc (.cells #[.slice qa n qc,.slice (some ⟨eb,0,none⟩) 1 1] 89)) (pb:=w2.heap.size) (va:= .slice qa n qc) (vb:= .slice (some ⟨eb,0,none⟩) 1 1) (la:=l) (lb:=[(false,(N:Int))]) (aB (heap_alloc_new _ _) rfl) (aB (heap_alloc_new _ _) rfl) (jH.out _ Jg) (HK.out.next Jg).ends (by rw[HX.out.2.2];simp only[List.length_singleton];omega);rw[HX.out.2.2]at cc;simp only[List.length_singleton]at cc;have HB3:Hid (Below wr.heap.size wr (w2.alloc (.cells #[.slice qa n qc,.slice (some ⟨eb,0,none⟩) 1 1] 89))):=Jg
         clear hB2 hB2' hB3 Jg)
       |(go_at_call 232;refine cc.mono ?_;rintro e w6 ⟨a6,d6,rfl,hown6,aQ⟩;clear cc
         have si:Hid (Below wr.heap.size wr w6):=HB3.out.trans (aQ.mono HB3.out.size);have fC:=HK.out.next si.out;have jJ:Hid (OL w cs (some ⟨b0,o0,none⟩) rc R N L g cap eb k RK w6):=fC;obtain⟨u,hu⟩:∃u,(cO RK)[k*2+1]?=some u:=⟨_,List.getElem?_eq_getElem (by rw[BH,fC.len];omega)⟩;have c6:w6.cell? ⟨g,k*2+1,none⟩=some u:=(fC.rl.own.cellAt (k*2+1) (by rw[fC.len];omega)).trans hu;have f6:w6.frozen? ⟨g,k*2+1,none⟩=false:=fC.rl.own.frozenAt (k*2+1);have uh:Hid (w6.ownsRow (w2.alloc (.cells #[.slice qa n qc,.slice (some ⟨eb,0,none⟩) 1 1] 89)).heap.size 116 2 (.slice a6 (n+1) d6) (n+1) (aR (l++[(false,(N:Int))]))):=hown6
         clear aQ fC hown6 hu))
     go_roundw
     case rel=>
      have hkk:k<RK.length:=by rw[jJ.out.len];exact hlt
      have hll:(l++[(false,(N:Int))]).length=n+1:=by rw[List.length_append,HX.out.2.2];rfl
      have hlo:wr.heap.size<=(w2.alloc (.cells #[.slice qa n qc,.slice (some ⟨eb,0,none⟩) 1 1] 89)).heap.size:=HB3.out.size;have hgl:g<wr.heap.size:=(HK.out.rl.own.lt g rfl).2;have hgs:=HK.out.zD
      have E5:oG w6 (fun b=>w.heap.size+2<=b/\b≠g) (.slice a6 (n+1) d6) (l++[(false,(N:Int))]):=by
       have:=uh.out;rw[<-hll]at this⊢;exact(BF this).kept (Nat.le_refl _) fun b hA _=>⟨rfl,by have:=hA.2;omega,by have:=hA.2;omega⟩
      have hS:=jJ.out.rl.eB (k:=k) hkk E5;rw[jJ.out.here hlt hkk,HX.out.2.1]at hS;refine⟨k+1,_,by go_num,by omega,HK.out.set si.out (fun b hb=>Below.heap_setCell _ _ _ _ hb) (by simp) rfl rfl rfl hS (by rw[List.length_set]) ?_⟩;refine jJ.out.Ni hlt ?_;rw[HX.out.2.1];unfold qd
      have hnO:vV (L,l)=false:=by
       have:=kP.out;unfold iY at this;simpa using this
      rw[if_pos rfl,hnO];rfl
     case measure=>simp[intOf];omega
    ·have e1:(L==a)=false:=by simpa using uz
     go_wp2_with
      (go_at_call 173;refine be.mono ?_;rintro e w2 ⟨rfl,hB2⟩;clear be
       have hB2':Below wr.heap.size wr w2:=HB1.out.trans (hB2.mono HB1.out.size);have c4:=(bV.out w2 (HK.out.next hB2').box).2.2.2.2.1;have c0:=(hB2.cell (World.block_lt_of_cell? _ _ HR.out.1)).trans HR.out.1
       clear hB2)
     go_roundw
     case rel=>
      have hK2:=HK.out.next hB2';refine⟨k+1,RK,by go_num,by omega,hK2.box,hK2.rl,hK2.len,?_,hK2.BQ,hK2.ne,hK2.zD⟩;rw[hK2.map];refine aeJ hlt ?_;rw[HX.out.2.1];unfold qd;rw[if_neg uz]
     case measure=>simp[intOf];omega
  ·have hkk:k=R.length:=by omega
   have mo:=zx (w:=wr) (T:=T) (N:=N) (ra:=some ⟨b0,o0,none⟩) (rn:=R.length) (rc:=rc) (op:=op) (a:=a) (b:=b) (c:=c);obtain⟨x0,x1,x2,x3,x4,x5,x6⟩:=bV.out wr hK.box;have ET:Hid (k=R.length):=hkk;have hfd:=fun w=>aeI (t:=false) (v:=(N:Int)) w;clear hK hkk
   go_wp2_with
    (first
     |(go_at_call 233;refine mo.mono ?_;rintro e w3 ⟨rfl,hB3⟩;clear mo
       have hB4:Below wr.heap.size wr (w3.alloc (.cells #[.int .i64 N,.slice none 0 0] 91)):=hB3.alloc hB3.size _;have hrow:eO (w3.alloc (.cells #[.int .i64 N,.slice none 0 0] 91)) (.slice (some ⟨w3.heap.size,0,none⟩) 1 1) 1 [.int .i64 N,.slice none 0 0]:=BJ;have dz:=(HK.out.next hB4).rl.own;rw[HK.out.len]at dz;have hb4:w.heap.size+2<=(w3.alloc (.cells #[.int .i64 N,.slice none 0 0] 91)).heap.size:=Nat.le_trans HK.out.box.size hB4.size;have hl4:R.length+1<=100000:=by omega
       have gJ:Hid (Below wr.heap.size wr (w3.alloc (.cells #[.int .i64 N,.slice none 0 0] 91))):=hB4
       clear hB3 hB4)
     |(at_builtin
       refine EH rfl _ _ rfl rfl rfl rfl dz hrow hb4 hl4 ?_;intro a' d' w6 hown6 hgrow hat;have aQ:Below (w.heap.size+2) wr w6:=(gJ.out.mono HK.out.box.size).grown hgrow hb4 fun k hk=>(dz.lt k hk).1;have BZ:=HK.out.box.later aQ
       have yj:aM w6 (w.heap.size+2) (.slice a' (R.length+1) d') (RK++[(.slice none 0 0,((N:Int),[]))]):=by
        refine HK.out.rl.IK (w5:=w3.alloc (.cells #[.int .i64 N,.slice none 0 0] 91)) HK.out.box.size gJ.out (World.ownsRow_nil _ _ _ _) hgrow ?_ ?_
        ·rw[BI,HK.out.len]
         exact hown6
        ·intro g hg
         exact(hat g hg).imp id fun e=>by omega
       obtain⟨y0,y1,y2,y3,y4,y5,y6⟩:=bV.out w6 BZ;have HC6:Hid (bI w cs 259 (some ⟨b0,o0,none⟩) rc R w6):=BZ;have HF:Hid (aM w6 (w.heap.size+2) (.slice a' (R.length+1) d') (RK++[(.slice none 0 0,((N:Int),[]))])):=yj;have wi:=EI (w:=w6) (T:=T) (N:=N) (ra:=some ⟨b0,o0,none⟩) (rn:=R.length) (rc:=rc) (op:=op) (a:=a) (b:=b) (c:=c) (M:=(N:Int)+1) (oa:=a') (on:=R.length+1) (oc:=d')
       clear hrow dz hb4 hown6 hgrow hat aQ BZ yj x0 x1 x2 x3 x4 x5 x6)
     |(go_at_call 227;refine wi.mono ?_;rintro e w7 ⟨rfl,fJ⟩
       have fF:Hid (bI w cs 259 (some ⟨b0,o0,none⟩) rc R w7):=HC6.out.next fJ;have sU:Hid (aM w7 (w.heap.size+2) (.slice a' (R.length+1) d') (RK++[(.slice none 0 0,((N:Int),[]))])):=HF.out.below fJ;have z0:=fF.out.y0;have z1:=fF.out.y1;have z2:=fF.out.y2;have V8:=fF.out.yf 0;have V9:=fF.out.yf 1;have Wh:=fF.out.yf 2
       clear wi fJ y0 y1 y2 y3 y4 y5 y6))
   have q0:=uq (v0:= .int .i64 T) (v1:= .int .i64 (N+1)) (v2:= .slice a' (R.length+1) d') z0;have q1:=uw (v0:= .int .i64 T) (v1:= .int .i64 (N+1)) (v2:= .slice a' (R.length+1) d') z1;have q2:=uy (v0:= .int .i64 T) (v1:= .int .i64 (N+1)) (v2:= .slice a' (R.length+1) d') z2;refine bodyPost_ret (v:= .agg #[.int .i64 T,.int .i64 (N+1),.slice a' (R.length+1) d']) (by simp[results,Tryz.results242,go_sem,q0,q1,q2]) rfl ?_;have ho:=fF.out.out sU.out (.int .i64 T) (.int .i64 (N+1)) (.slice a' (R.length+1) d');refine⟨_,_,rfl,ho.1,?_,ho.2⟩;rw[List.map_append,HK.out.map,ET.out];simp
end Go.Proofs.YtblkkhfdeaaidaaGreatDoor
