import Derived.Test.YtpkmpkphfflpjaaGreatStCopiesAndStRl
import Derived.Test.YtpkmpkphfflpjaaGreatStOfPAndStSwap
set_option maxHeartbeats 12800000
set_option maxRecDepth 100000
namespace Go.Proofs.YtpkmpkphfflpjaaGreat
open Go.RowKit
theorem abn{w:World}{T:Int}{N ka bn m:Nat}{ra:Option Addr}{rc:Nat}{op c at_:Int}{R:List Ru}{L:Int}{l:List Sy}{sv:Value}{CH:List Int}(hr:aD w w.heap.size (.slice ra R.length rc) R)(hl:R.length<=1000)(hl2:∀q,q<R.length->(R.getD q (0,[])).2.length<=1000)(hk:ka<R.length)(hx:R.getD ka (0,[])=(L,l))(hcl:l.length=bn+1+m)
 (hS:aH w w.heap.size sv CH) (hCH:∀k,k<CH.length->0<=CH.getD k 0/\CH.getD k 0<(R.length:Int)) (hc:CH.length<=1000):
 Calls Tryz.prog 149 #[.agg #[.int .i64 T,.int .i64 N,.slice ra R.length rc,.int .i64 op,.int .i64 ka,.int .i64 bn,.int .i64 c,sv,.int .i64 at_]] w fun e w'=> ∃lv RL,e= .returned (.agg #[.int .i64 T,.int .i64 N,lv])/\bA w' w.heap.size lv RL/\(RL.map fun x=>x.2)=R.take ka++CH.map (fun i=>(L,l.take bn++(R.getD i.toNat (0,[])).2++l.drop (bn+1)))++R.drop (ka+1)/\Below w.heap.size w w':=by
 obtain⟨sa,sc,hsv⟩:=hS.1;subst hsv;obtain⟨cs,hcs⟩:∃cs:Array Value,#[.int .i64 T,.int .i64 N,.slice ra R.length rc,.int .i64 op,.int .i64 ka,.int .i64 bn,.int .i64 c,.slice sa CH.length sc,.int .i64 at_]=cs:=⟨_,rfl⟩;have hC0:cu w cs 113 ra rc R ((w.alloc (.cells cs 113)).alloc (.cells #[.int .i64 0,.int .i64 0,.slice none 0 0] 24)):=Gl hr;rw[<-hcs]at hC0;obtain⟨W0,hW0⟩:∃W,(w.alloc (.cells #[.int .i64 T,.int .i64 N,.slice ra R.length rc,.int .i64 op,.int .i64 ka,.int .i64 bn,.int .i64 c,.slice sa CH.length sc,.int .i64 at_] 113)).alloc (.cells #[.int .i64 0,.int .i64 0,.slice none 0 0] 24)=W:=⟨_,rfl⟩;rw[hW0,hcs]at hC0;have uP:Hid (#[.int .i64 T,.int .i64 N,.slice ra R.length rc,.int .i64 op,.int .i64 ka,.int .i64 bn,.int .i64 c,.slice sa CH.length sc,.int .i64 at_]=cs):=hcs
 have dA:Hid (∀wq,cu w cs 113 ra rc R wq->wq.cell? ⟨w.heap.size,0,none⟩=some (.int .i64 T)/\wq.cell? ⟨w.heap.size,1,none⟩=some (.int .i64 N)/\wq.cell? ⟨w.heap.size,2,none⟩=some (.slice ra R.length rc)/\wq.cell? ⟨w.heap.size,3,none⟩=some (.int .i64 op)/\wq.cell? ⟨w.heap.size,4,none⟩=some (.int .i64 ka)/\wq.cell? ⟨w.heap.size,5,none⟩=some (.int .i64 bn)/\wq.cell? ⟨w.heap.size,6,none⟩=some (.int .i64 c)/\wq.cell? ⟨w.heap.size,7,none⟩=some (.slice sa CH.length sc)):=fun wq hq=>by
  refine⟨hq.cell ?_,hq.cell ?_,hq.cell ?_,hq.cell ?_,hq.cell ?_,hq.cell ?_,hq.cell ?_,hq.cell ?_⟩<;>(rw[<-uP.out];rfl)
 obtain⟨x0,x1,x2,x3,x4,x5,x6,x7⟩:=dA.out W0 hC0;obtain⟨b0,o0,nX,qa,qc,hv,_,k1,k2,hsy⟩:=hC0.rules.jF hk;cases hv;have lJ:=hl2 ka hk;rw[hx]at k1 k2 hsy lJ;simp only at k1 k2 hsy lJ;have hqc:l.length<=qc:=by obtain⟨_,_,hv,hle⟩:=hsy.1;cases hv;exact hle
 obtain⟨ad,rfl⟩:=hsy.Gn (by omega);rw[hcl]at k2 lJ hqc;obtain⟨W1,hW1⟩:∃W,W0.alloc (.cells #[.int .i64 L,.slice (some ad) (bn+1+m) qc] 79)=W:=⟨_,rfl⟩;obtain⟨rb,hrb⟩:∃x,W0.heap.size=x:=⟨_,rfl⟩;have hB1:Below W0.heap.size W0 W1:=by rw[<-hW1];exact(Below.refl _ _).alloc (Nat.le_refl _) _
 have HB1:Hid (Below W0.heap.size W0 W1):=hB1;have r0:W1.cell? ⟨rb,0,none⟩=some (.int .i64 L):=by rw[<-hW1,<-hrb];exact ah (heap_alloc_new _ _) rfl
 have r1:W1.cell? ⟨rb,1,none⟩=some (.slice (some ad) (bn+1+m) qc):=by rw[<-hW1,<-hrb];exact ah (heap_alloc_new _ _) rfl
 have rE:=hC0.next hB1
 have HW:Hid (cu w cs 113 (some ⟨b0,o0,none⟩) rc R W1/\W1.cell? ⟨rb,0,none⟩=some (.int .i64 L)/\W1.cell? ⟨rb,1,none⟩=some (.slice (some ad) (bn+1+m) qc)/\rb<W1.heap.size/\bK W1 (.slice (some ad) (bn+1+m) qc) l/\w.heap.size+2<=W1.heap.size):=by
  refine⟨rE,r0,r1,World.block_lt_of_cell? _ _ r0,?_,rE.size⟩;have:=hsy.same (iT hB1);rw[hcl]at this;exact this
 have HS:Hid (∀wq,cu w cs 113 (some ⟨b0,o0,none⟩) rc R wq->aH wq w.heap.size (.slice sa CH.length sc) CH):=fun wq hq=>hS.below hq.below;have HCH:Hid (∀k,k<CH.length->0<=CH.getD k 0/\CH.getD k 0<(R.length:Int)):=hCH;have H2:Hid (∀q,q<R.length->(R.getD q (0,[])).2.length<=1000):=hl2;have HX:Hid (R.getD ka (0,[])=(L,l)/\l.length=bn+1+m):=⟨hx,hcl⟩;have y7:=(dA.out W1 rE).2.2.2.2.2.2.2;have i0:(0:Int)<=(ka:Int):=Int.natCast_nonneg _;have i1:(ka:Int)<(R.length:Int):=by omega
 clear hr hl2 hx hcl hC0 hcs hsy hB1 hS hCH rE
 go_enter Tryz.func149,Tryz.ntmps149
 go_wp2_with fail
 clear x0 x1 x2 x3 x4 x5 x6 x7 y7 k1 k2 hW0 hW1 hrb r0 r1 HB1;have hup:=fun w=>CY (ad:=ad) (f:=bn) (sl:=bn+1+m) (lc:=qc) (fi:=(bn:Int)) rfl (by omega) w;obtain⟨A,hA,hA'⟩:=Kn (la:=some ad) (f:=bn+1) (n:=m) (sl:=bn+1+m) (lc:=qc) (fi:=(bn:Int)+1) (by push_cast;rfl) rfl;have zo:Hid (qc≠bn+1->A=(some ad).map (·.add ((bn+1)*2))):=hA';have i5:IntKind.i64.wrap ((bn:Int)+1)=(bn:Int)+1:=IntWalk.i64_in _ (by omega);clear hA'
 go_loopw [4,22] (fun s4 MX wr=> ∃(k:Nat) (pv:Value) (PL:List (Value×Ru)),pv=s4/\MX= .int .i64 k/\k<=CH.length/\bA wr W1.heap.size pv PL/\PL.length=k/\(PL.map fun x=>x.2)=(CH.take k).map (fun i=>(L,l.take bn++(R.getD i.toNat (0,[])).2++l.drop (bn+1)))/\Below W1.heap.size W1 wr) (fun _ s _=>CH.length-(intOf s).toNat)
 case atStart=>exact⟨0,_,[],rfl,rfl,Nat.zero_le _,Gh _ _,rfl,rfl,Below.refl _ _⟩
 case round=>
  obtain⟨k,pv,PL,rfl,rfl,hk',hP,MZ,hmap,hB⟩:=hrel;have HP:Hid (bA wr W1.heap.size pv PL/\PL.length=k/\(PL.map fun x=>x.2)=(CH.take k).map (fun i=>(L,l.take bn++(R.getD i.toNat (0,[])).2++l.drop (bn+1)))):=⟨hP,MZ,hmap⟩;have HB:Hid (Below W1.heap.size W1 wr):=hB;have zu:=HW.out.1.next hB;by_cases hlt:k<CH.length
  ·obtain⟨sb,so,_,hv,_,s1⟩:=(HS.out wr zu).2 k hlt
   cases hv;obtain⟨hi0,hi1⟩:=HCH.out k hlt;obtain⟨i,hi⟩:∃i,CH.getD k 0=i:=⟨_,rfl⟩;rw[hi]at hi0 hi1 s1;obtain⟨q,rfl⟩:∃q:Nat,i=q:=⟨i.toNat,by omega⟩;have hq:q<R.length:=by omega
   obtain⟨b2,o2,Tj,zw,qc2,hv,_,k1,k2,hsy⟩:=zu.rules.jF hq;cases hv;have M4:=H2.out q hq;obtain⟨⟨L2,l2⟩,hx2⟩:∃x,R.getD q (0,[])=x:=⟨_,rfl⟩;rw[hx2]at k1 k2 hsy M4;simp only at k1 k2 hsy M4;obtain⟨n2,hn2⟩:∃n,l2.length=n:=⟨_,rfl⟩;rw[hn2]at k2 hsy M4
   have lW:Hid ((CH.take (k+1)).map (fun i=>(L,l.take bn++(R.getD i.toNat (0,[])).2++l.drop (bn+1)))=(CH.take k).map (fun i=>(L,l.take bn++(R.getD i.toNat (0,[])).2++l.drop (bn+1)))++[(L,l.take bn++l2++l.drop (bn+1))]/\l2.length=n2):=by
    refine⟨?_,hn2⟩;rw[List.take_succ_eq_append_getElem hlt,List.map_append];have e:CH[k]=(q:Int):=by rw[<-hi];simp[List.getD,hlt]
    rw[e,List.map_cons,List.map_nil,Int.toNat_natCast,hx2]
   have abo:Hid (∀wq,Below wr.heap.size wr wq->bK wq (.slice zw n2 qc2) l2):=fun wq hB=>hsy.same (iT hB);have j0:(0:Int)<=(k:Int):=Int.natCast_nonneg _;have j1:(k:Int)<(CH.length:Int):=by omega
   have q0:(0:Int)<=(q:Int):=Int.natCast_nonneg _;have fC:Hid (wr.cell? ⟨b0,o0+q*2+1,none⟩=some (.slice zw n2 qc2)):=k2;clear hP MZ hmap hx2 hn2 hsy hi zu hB k1 k2
   go_upto_region 6 with fail
   obtain⟨Wd,hWd⟩:∃W,wr.drew=W:=⟨_,rfl⟩;have hBd:Below wr.heap.size wr Wd:=by rw[<-hWd];exact(Below.refl _ _).drew
   have eP:Hid (Below wr.heap.size wr Wd):=hBd
   have jW:Hid (∀wq,Below Wd.heap.size Wd wq->wq.cell? ⟨rb,1,none⟩=some (.slice (some ad) (bn+1+m) qc)/\wq.cell? ⟨w.heap.size,5,none⟩=some (.int .i64 bn)/\wq.cell? ⟨w.heap.size,2,none⟩=some (.slice (some ⟨b0,o0,none⟩) R.length rc)/\wq.cell? ⟨b0,o0+q*2+1,none⟩=some (.slice zw n2 qc2)):=fun wq hq=>by
    have h1:Below wr.heap.size wr wq:=eP.out.trans (hq.mono eP.out.size);have h2:Below W1.heap.size W1 wq:=HB.out.trans (h1.mono HB.out.size);have h3:=dA.out wq (HW.out.1.next h2);exact⟨(h2.cell (World.block_lt_of_cell? _ _ HW.out.2.2.1)).trans HW.out.2.2.1,h3.2.2.2.2.2.1,h3.2.2.1,(h1.cell (World.block_lt_of_cell? _ _ fC.out)).trans fC.out⟩
   have S0:=jW.out Wd (Below.refl _ _);clear hBd s1;refine iw [0,1,2,3,4,5,6,7,8,9,10,11,12,13,14,15,16,17,18,19,20,21,22] 3 25 (fun wq=>wq.cell? ⟨rb,1,none⟩=some (.slice (some ad) (bn+1+m) qc)/\wq.cell? ⟨w.heap.size,5,none⟩=some (.int .i64 bn)/\wq.cell? ⟨w.heap.size,2,none⟩=some (.slice (some ⟨b0,o0,none⟩) R.length rc)/\wq.cell? ⟨b0,o0+q*2+1,none⟩=some (.slice zw n2 qc2)) (by kernel_rfl) (by kernel_rfl) (by rw[hWd];exact S0) ?_;rw[hWd];clear hWd S0
   iterate 23
    refine aU.gN (v:= ?_) rfl (by rfl) ?_ ?_;rotate_left
    ·intro w' hSw
     obtain⟨z0,z1,z2,z3⟩:=hSw
     go_simp
     try with_reducible rfl
    simp only[Act.put,List.setIfInBounds_toArray,List.set_cons_zero,List.set_cons_succ]
   rw[aU];have aP:Below Wd.heap.size Wd (Wd.alloc (.cells #[.slice (some ad) bn qc,.slice zw n2 qc2,.slice A m (qc-(bn+1))] 77)):=(Below.refl _ _).alloc (Nat.le_refl _) _;refine ax.one (i:=23) (by kernel_rfl) ⟨_,rfl,fun K hK=> ?_⟩
   go_simp
   refine hK.out _ _ (fun _=>jW.out _ aP) ?_;clear hK;obtain⟨w5,kg⟩:∃W,Wd.alloc (.cells #[.slice (some ad) bn qc,.slice zw n2 qc2,.slice A m (qc-(bn+1))] 77)=W:=⟨_,rfl⟩;have p0:w5.cell? ⟨Wd.heap.size,0,none⟩=some (.slice (some ad) bn qc):=by rw[<-kg];exact ah (heap_alloc_new _ _) rfl
   have p1:w5.cell? ⟨Wd.heap.size,1,none⟩=some (.slice zw n2 qc2):=by rw[<-kg];exact ah (heap_alloc_new _ _) rfl
   have p2:w5.cell? ⟨Wd.heap.size,2,none⟩=some (.slice A m (qc-(bn+1))):=by rw[<-kg];exact ah (heap_alloc_new _ _) rfl
   rw[kg]at aP⊢;clear kg;have kg:Below wr.heap.size wr w5:=eP.out.trans (aP.mono eP.out.size)
   have hs5:bK w5 (.slice (some ad) l.length qc) l:=by
    rw[HX.out.2];exact HW.out.2.2.2.2.1.same (iT (HB.out.trans (kg.mono HB.out.size)))
   have hlt1:(l.take bn).length=bn:=by rw[List.length_take,HX.out.2];omega
   have hld:(l.drop (bn+1)).length=m:=by rw[List.length_drop,HX.out.2];omega
   have cc:=Qc p0 p1 p2 (hs5.Ar (f:=bn) (by rw[HX.out.2];omega)) (abo.out w5 kg) (hs5.Gm HX.out.2 zo.out) (by rw[hlt1,hld,lW.out.2];omega);rw[hlt1,hld,lW.out.2]at cc;refine ax.one (i:=24) (by kernel_rfl) ⟨_,rfl,fun K hK=> ?_⟩
   go_simp
   refine cc.mono ?_;rintro e w6 ⟨a6,d6,rfl,hown6,aK⟩;dsimp only;have dL:Below Wd.heap.size Wd w6:=aP.trans (aK.mono aP.size);refine hK.out _ _ (fun _=>jW.out _ dL) ?_;clear hK cc;refine ax.last (i:=25) (by kernel_rfl) ⟨_,rfl,fun K hK=> ?_⟩
   go_simp
   refine hK.out _ _ (fun h=>absurd h (by omega)) (NoPanic.normal ?_);have uE:Below wr.heap.size wr w6:=eP.out.trans (dL.mono eP.out.size);have t0:=((HB.out.trans (uE.mono HB.out.size)).cell (World.block_lt_of_cell? _ _ HW.out.2.1)).trans HW.out.2.1;have hrow:dI (w6.alloc (.cells #[.int .i64 L,.slice a6 (bn+n2+m) d6] 79)) (.slice (some ⟨w6.heap.size,0,none⟩) 1 1) 1 [.int .i64 L,.slice a6 (bn+n2+m) d6]:=Ap;have bD:Below wr.heap.size wr (w6.alloc (.cells #[.int .i64 L,.slice a6 (bn+n2+m) d6] 79)):=uE.alloc uE.size _;have Tk:=(HP.out.1.below bD).own;have dK:W1.heap.size<=(w6.alloc (.cells #[.int .i64 L,.slice a6 (bn+n2+m) d6] 79)).heap.size:=Nat.le_trans HB.out.size bD.size;have hl7:PL.length+1<=100000:=by rw[HP.out.2.1];omega
   have nM:Hid (Below wr.heap.size wr (w6.alloc (.cells #[.int .i64 L,.slice a6 (bn+n2+m) d6] 79))):=bD
   have uQ:Hid (w6.ownsRow wr.heap.size 104 2 (.slice a6 (bn+n2+m) d6) (bn+n2+m) (bC (l.take bn++l2++l.drop (bn+1)))/\(l.take bn++l2++l.drop (bn+1)).length=bn+n2+m):=by
    refine⟨jE hown6 kg.size,?_⟩;rw[List.length_append,List.length_append,hlt1,hld,lW.out.2]
   clear hK p0 p1 p2 hs5 hown6 aK dL aP kg uE bD hlt1 hld
   go_wp2_with
    (at_builtin
     refine CQ rfl _ _ rfl rfl rfl rfl Tk hrow dK hl7 ?_
     intro a' d' w8 abp hgrow hat)
   go_roundw
   case rel=>
    refine⟨k+1,_,PL++[(.slice a6 (bn+n2+m) d6,(L,l.take bn++l2++l.drop (bn+1)))],rfl,by go_num,by omega,?_,by rw[List.length_append,HP.out.2.1];rfl,by rw[List.map_append,HP.out.2.2,lW.out.1];rfl,?_⟩
    ·refine HP.out.1.Gp (w5:=w6.alloc (.cells #[.int .i64 L,.slice a6 (bn+n2+m) d6] 79)) HB.out.size nM.out ?_ hgrow ?_ (fun g hg=>(hat g hg).imp id fun e=>by omega)
     ·rw[uQ.out.2]
      exact uQ.out.1.alloc _
     ·rw[Ao]
      exact abp
    ·exact(HB.out.trans (nM.out.mono HB.out.size)).grown hgrow dK fun g hg=>(Tk.lt g hg).1
   case measure=>simp[intOf];omega
  ·have hkk:k=CH.length:=by omega
   have cop:=Gj (w:=wr) (T:=T) (N:=N) (op:=op) (a:=ka) (b:=bn) (c:=c) (zu.rules.mono (Nat.le_trans (by omega) zu.size)) hl H2.out;obtain⟨x0,x1,x2,x3,x4,x5,x6,x7⟩:=dA.out wr zu;have Ez:Hid (k=CH.length):=hkk;obtain⟨pa,pc,hpv⟩:=aY hP.own;subst hpv;clear hP MZ hmap hB hkk zu
   go_upto_region 10 with(go_at_call 134;refine cop.mono ?_;rintro e w3 ⟨lv,RL,rfl,hO,hmap,hB3⟩;clear cop)
   have hlen:RL.length=R.length:=by rw[<-hmap,List.length_map]
   obtain⟨g,cap,hlv,hg0,_⟩:=hO.pY.form (by omega);subst hlv;obtain⟨mm,hmm⟩:∃mm,R.length=ka+1+mm:=⟨R.length-(ka+1),by omega⟩
   have hcap:RL.length<=cap:=by
    obtain⟨_,⟨hv,_⟩|⟨_,_,_,hv,_,_,hle,_⟩⟩:=hO.pY
    ·cases hv
    ·cases hv;exact hle
   have hR2:bA w3 W1.heap.size (.slice (some ⟨g,0,none⟩) RL.length cap) RL:=hO.CX.mono HB.out.size;have HM:Hid ((RL.map fun x=>x.2)=R/\RL.length=R.length):=⟨hmap,hlen⟩;rw[hlen];rw[hlen]at hcap;have YU:=fun w=>Ye (g:=g) (f:=ka) (sl:=R.length) (lc:=cap) (fi:=(ka:Int)) rfl (by omega) w;obtain⟨A2,hA2,EB⟩:=Yf (la:=some ⟨g,0,none⟩) (f:=ka+1) (n:=mm) (sl:=R.length) (lc:=cap) (fi:=(ka:Int)+1) (by push_cast;rfl) hmm;have abq:Hid (cap≠ka+1->A2=(some (⟨g,0,none⟩:Addr)).map (·.add ((ka+1)*2))):=EB;have i6:IntKind.i64.wrap ((ka:Int)+1)=(ka:Int)+1:=IntWalk.i64_in _ (by omega);obtain⟨Wd,hWd⟩:∃W,w3.drew=W:=⟨_,rfl⟩;have hBd:Below w3.heap.size w3 Wd:=by rw[<-hWd];exact(Below.refl _ _).drew
   have HB3:Hid (Below W1.heap.size W1 w3):=HB.out.trans (hB3.mono HB.out.size);have eP:Hid (Below W1.heap.size W1 Wd):=HB3.out.trans (hBd.mono HB3.out.size);have iX:Hid (bA Wd W1.heap.size (.slice (some ⟨g,0,none⟩) RL.length cap) RL/\bA Wd W1.heap.size (.slice pa PL.length pc) PL):=⟨hR2.below hBd,(HP.out.1.below hB3).below hBd⟩;have eU:Hid (∀wq,Below Wd.heap.size Wd wq->cu w cs 113 (some ⟨b0,o0,none⟩) rc R wq):=fun wq hq=>HW.out.1.next (eP.out.trans (hq.mono eP.out.size))
   have jW:Hid (∀wq,Below Wd.heap.size Wd wq->wq.cell? ⟨w.heap.size,0,none⟩=some (.int .i64 T)/\wq.cell? ⟨w.heap.size,1,none⟩=some (.int .i64 N)/\wq.cell? ⟨w.heap.size,2,none⟩=some (.slice (some ⟨b0,o0,none⟩) R.length rc)/\wq.cell? ⟨w.heap.size,3,none⟩=some (.int .i64 op)/\wq.cell? ⟨w.heap.size,4,none⟩=some (.int .i64 ka)/\wq.cell? ⟨w.heap.size,5,none⟩=some (.int .i64 bn)/\wq.cell? ⟨w.heap.size,6,none⟩=some (.int .i64 c)):=fun wq hq=>
    let h:=dA.out wq (eU.out wq hq)
    ⟨h.1,h.2.1,h.2.2.1,h.2.2.2.1,h.2.2.2.2.1,h.2.2.2.2.2.1,h.2.2.2.2.2.2.1⟩
   have S0:=jW.out Wd (Below.refl _ _);have si:Hid (R.length=ka+1+mm):=hmm;clear hO hmap hlen hB3 hBd hR2 EB x0 x1 x2 x3 x4 x5 x6 x7 hmm;refine iw [0,1,2,3,4,5,6,7,8,9,10,11,12,13,14,15,16,17,18,19] 4 23 (fun wq=>wq.cell? ⟨w.heap.size,0,none⟩=some (.int .i64 T)/\wq.cell? ⟨w.heap.size,1,none⟩=some (.int .i64 N)/\wq.cell? ⟨w.heap.size,2,none⟩=some (.slice (some ⟨b0,o0,none⟩) R.length rc)/\wq.cell? ⟨w.heap.size,3,none⟩=some (.int .i64 op)/\wq.cell? ⟨w.heap.size,4,none⟩=some (.int .i64 ka)/\wq.cell? ⟨w.heap.size,5,none⟩=some (.int .i64 bn)/\wq.cell? ⟨w.heap.size,6,none⟩=some (.int .i64 c)) (by kernel_rfl) (by kernel_rfl) (by rw[hWd];exact S0) ?_;rw[hWd];clear hWd S0
   iterate 20
    refine aU.gN (v:= ?_) rfl (by rfl) ?_ ?_;rotate_left
    ·intro w' hSw
     obtain⟨z0,z1,z2,z3,z4,z5,z6⟩:=hSw
     go_simp
     try with_reducible rfl
    simp only[Act.put,List.setIfInBounds_toArray,List.set_cons_zero,List.set_cons_succ]
   rw[aU];have aP:Below Wd.heap.size Wd (Wd.alloc (.cells #[.slice (some ⟨g,0,none⟩) ka cap,.slice pa PL.length pc,.slice A2 mm (cap-(ka+1))] 22)):=(Below.refl _ _).alloc (Nat.le_refl _) _;refine ax.one (i:=20) (by kernel_rfl) ⟨_,rfl,fun K hK=> ?_⟩
   go_simp
   refine hK.out _ _ (fun _=>jW.out _ aP) ?_;clear hK;obtain⟨w5,kg⟩:∃W,Wd.alloc (.cells #[.slice (some ⟨g,0,none⟩) ka cap,.slice pa PL.length pc,.slice A2 mm (cap-(ka+1))] 22)=W:=⟨_,rfl⟩;have p0:w5.cell? ⟨Wd.heap.size,0,none⟩=some (.slice (some ⟨g,0,none⟩) ka cap):=by rw[<-kg];exact ah (heap_alloc_new _ _) rfl
   have p1:w5.cell? ⟨Wd.heap.size,1,none⟩=some (.slice pa PL.length pc):=by rw[<-kg];exact ah (heap_alloc_new _ _) rfl
   have p2:w5.cell? ⟨Wd.heap.size,2,none⟩=some (.slice A2 mm (cap-(ka+1))):=by rw[<-kg];exact ah (heap_alloc_new _ _) rfl
   rw[kg]at aP⊢;clear kg;have qC:=iX.out.1.below aP;have xH:=iX.out.2.below aP;have e1:=qC.rowAt.take (f:=ka) (by rw[HM.out.2];omega);have e2:=qC.rowAt.drop (f:=ka+1) (m:=mm) (by rw[HM.out.2];exact si.out) abq.out;rw[Yh]at e1;rw[Yi]at e2;have cc:=Yj p0 p1 p2 e1 xH.rowAt e2 (by rw[HP.out.2.1];have:=si.out;omega);rw[<-Kw,<-Kw]at cc;refine ax.one (i:=21) (by kernel_rfl) ⟨_,rfl,fun K hK=> ?_⟩
   go_simp
   refine cc.mono ?_;rintro e w6 ⟨a6,d6,rfl,hown6,aK⟩;dsimp only;have dL:Below Wd.heap.size Wd w6:=aP.trans (aK.mono aP.size);refine hK.out _ _ (fun _=>jW.out _ dL) ?_;clear hK cc
   have hlK:(RL.take ka++PL++RL.drop (ka+1)).length=ka+PL.length+mm:=by
    rw[List.length_append,List.length_append,List.length_take,List.length_drop,HM.out.2];have:=si.out;omega
   have xG:bA w6 W1.heap.size (.slice a6 (ka+PL.length+mm) d6) (RL.take ka++PL++RL.drop (ka+1)):=by
    refine qC.cat xH (Nat.le_trans eP.out.size aP.size) aK (by rw[hlK];exact hown6) fun x hx=> ?_;rcases List.mem_append.1 hx with hx|hx
    ·rcases List.mem_append.1 hx with hx|hx
     ·exact .inl (List.mem_of_mem_take hx)
     ·exact .inr hx
    ·exact .inl (List.mem_of_mem_drop hx)
   have wi:=CV (w:=w6) (T:=T) (N:=N) (ra:=some ⟨b0,o0,none⟩) (rn:=R.length) (rc:=rc) (op:=op) (a:=ka) (b:=bn) (c:=c) (M:=N) (oa:=a6) (on:=ka+PL.length+mm) (oc:=d6);refine ax.one (i:=22) (by kernel_rfl) ⟨_,rfl,fun K hK=> ?_⟩
   go_simp
   refine wi.mono ?_;rintro e w7 ⟨rfl,bD⟩;dsimp only;have dh:Below Wd.heap.size Wd w7:=dL.trans (bD.mono dL.size);refine hK.out _ _ (fun _=>jW.out _ dh) ?_;clear hK wi;have gH:Hid (cu w cs 113 (some ⟨b0,o0,none⟩) rc R w7):=eU.out w7 dh;have zn:Hid (bA w7 (w.heap.size+2) (.slice a6 (ka+PL.length+mm) d6) (RL.take ka++PL++RL.drop (ka+1))):=(xG.below bD).mono HW.out.2.2.2.2.2;have z0:=gH.out.y0;have z1:=gH.out.y1;have z2:=gH.out.y2;have LA:=gH.out.yf 0;have LB:=gH.out.yf 1;have Ta:=gH.out.yf 2;refine ax.last (i:=23) (by kernel_rfl) ⟨_,rfl,fun K hK=> ?_⟩
   go_simp
   refine hK.out _ _ (fun h=>absurd h (by omega)) (NoPanic.normal ?_);have q0:=tX (v0:= .int .i64 T) (v1:= .int .i64 N) (v2:= .slice a6 (ka+PL.length+mm) d6) z0;have q1:=tY (v0:= .int .i64 T) (v1:= .int .i64 N) (v2:= .slice a6 (ka+PL.length+mm) d6) z1;have q2:=tZ (v0:= .int .i64 T) (v1:= .int .i64 N) (v2:= .slice a6 (ka+PL.length+mm) d6) z2;clear hK
   go_wp2_with fail
   refine bodyPost_ret (v:= .agg #[.int .i64 T,.int .i64 N,.slice a6 (ka+PL.length+mm) d6]) (by simp[results,Tryz.results149,go_sem,q0,q1,q2]) rfl ?_;have ho:=gH.out.out zn.out (.int .i64 T) (.int .i64 N) (.slice a6 (ka+PL.length+mm) d6);refine⟨_,_,rfl,ho.1,?_,ho.2⟩;rw[List.map_append,List.map_append,List.map_take,List.map_drop,HM.out.1,HP.out.2.2,Ez.out,List.take_length]
theorem abr{w:World}{T:Int}{N:Nat}{ra:Option Addr}{rc:Nat}{op a b c:Int}{R:List Ru}(hr:aD w w.heap.size (.slice ra R.length rc) R)(h0:0<R.length)(hl:R.length<=1000)(hl2:∀q,q<R.length->(R.getD q (0,[])).2.length<=1000)(hN:N<=1000):
 Calls Tryz.prog 157 #[.agg #[.int .i64 T,.int .i64 N,.slice ra R.length rc,.int .i64 op,.int .i64 a,.int .i64 b,.int .i64 c]] w fun e w'=> ∃lv RL,e= .returned (.agg #[.int .i64 T,.int .i64 (N+1),lv])/\bA w' w.heap.size lv RL/\(RL.map fun x=>x.2)=R.map (qA N a)++[((N:Int),[])]/\Below w.heap.size w w':=by
 obtain⟨cs,hcs⟩:∃cs:Array Value,#[.int .i64 T,.int .i64 N,.slice ra R.length rc,.int .i64 op,.int .i64 a,.int .i64 b,.int .i64 c]=cs:=⟨_,rfl⟩;have hC0:cu w cs 114 ra rc R ((w.alloc (.cells cs 114)).alloc (.cells #[.int .i64 0,.int .i64 0,.slice none 0 0] 24)):=Gl hr;rw[<-hcs]at hC0;obtain⟨W0,hW0⟩:∃W,(w.alloc (.cells #[.int .i64 T,.int .i64 N,.slice ra R.length rc,.int .i64 op,.int .i64 a,.int .i64 b,.int .i64 c] 114)).alloc (.cells #[.int .i64 0,.int .i64 0,.slice none 0 0] 24)=W:=⟨_,rfl⟩;rw[hW0,hcs]at hC0;have uP:Hid (#[.int .i64 T,.int .i64 N,.slice ra R.length rc,.int .i64 op,.int .i64 a,.int .i64 b,.int .i64 c]=cs):=hcs
 have dA:Hid (∀wq,cu w cs 114 ra rc R wq->wq.cell? ⟨w.heap.size,0,none⟩=some (.int .i64 T)/\wq.cell? ⟨w.heap.size,1,none⟩=some (.int .i64 N)/\wq.cell? ⟨w.heap.size,2,none⟩=some (.slice ra R.length rc)/\wq.cell? ⟨w.heap.size,3,none⟩=some (.int .i64 op)/\wq.cell? ⟨w.heap.size,4,none⟩=some (.int .i64 a)/\wq.cell? ⟨w.heap.size,5,none⟩=some (.int .i64 b)/\wq.cell? ⟨w.heap.size,6,none⟩=some (.int .i64 c)):=fun wq hq=>by
  refine⟨hq.cell ?_,hq.cell ?_,hq.cell ?_,hq.cell ?_,hq.cell ?_,hq.cell ?_,hq.cell ?_⟩<;>(rw[<-uP.out];rfl)
 have hmono:∀{wq:World},cu w cs 114 ra rc R wq->aD wq wq.heap.size (.slice ra R.length rc) R:=fun {wq} hq=>hq.rules.mono (Nat.le_trans (by omega) hq.size);have abt:Hid (∀{wq:World},cu w cs 114 ra rc R wq->aD wq wq.heap.size (.slice ra R.length rc) R):=hmono;obtain⟨x0,x1,x2,x3,x4,x5,x6⟩:=dA.out W0 hC0;have cop:=Gj (w:=W0) (T:=T) (N:=N) (op:=op) (a:=a) (b:=b) (c:=c) (hmono hC0) hl hl2;obtain⟨b0,o0,_,_,_,hv,_⟩:=hC0.rules.2 0 h0;cases hv;have lm:Hid (cu w cs 114 (some ⟨b0,o0,none⟩) rc R W0):=hC0;have H2:Hid (∀q,q<R.length->(R.getD q (0,[])).2.length<=1000):=hl2;have hml:∀w3:World,∃W,w3.alloc (.cells #[.bool false,.int .i64 N] 104)=W:=fun _=>⟨_,rfl⟩;clear hr hl2 hC0 hcs hmono
 go_enter Tryz.func157,Tryz.ntmps157
 go_wp2_with
  (first
   |(go_at_call 134;refine cop.mono ?_;rintro e wq ⟨lv,RL,rfl,hO,hmap,qp⟩;clear cop
     have vP:Hid (Below W0.heap.size W0 wq):=qp;have HO:Hid (au wq W0.heap.size (iH lv RL)/\(RL.map fun x=>x.2)=R):=⟨hO,hmap⟩;obtain⟨v0,v1,v2,v3,v4,v5,v6⟩:=dA.out wq (lm.out.next qp);have mo:=yG (w:=wq) (T:=T) (N:=N) (ra:=some ⟨b0,o0,none⟩) (rn:=R.length) (rc:=rc) (op:=op) (a:=a) (b:=b) (c:=c)
     clear qp hO hmap x0 x1 x2 x3 x4 x5 x6 hW0)
   |(go_at_call 144;refine mo.mono ?_;rintro e w3 ⟨rfl,hB3⟩;clear mo
     have Bv:=(lm.out.next vP.out).next (hB3.alloc hB3.size (.cells #[.bool false,.int .i64 N] 104));obtain⟨u0,u1,u2,u3,u4,u5,u6⟩:=dA.out _ Bv;have HB3:Hid (Below wq.heap.size wq w3):=hB3
     clear v0 v1 v2 v3 v4 v5 v6 Bv hB3))
 have hlen:RL.length=R.length:=by rw[<-HO.out.2,List.length_map]
 obtain⟨g,cap,hlv,hg0,hg1⟩:=HO.out.1.pY.form (by omega);subst hlv
 have vS:OL w cs (some ⟨b0,o0,none⟩) rc R N a g cap w3.heap.size 0 RL (w3.alloc (.cells #[.bool false,.int .i64 N] 104)):=by
  have hB4:Below wq.heap.size wq (w3.alloc (.cells #[.bool false,.int .i64 N] 104)):=HB3.out.alloc HB3.out.size _;refine⟨(lm.out.next vP.out).next hB4,(HO.out.1.CX.mono lm.out.size).below hB4,hlen,by rw[HO.out.2];simp,heap_alloc_new _ _,?_,Nat.le_trans lm.out.size hg0⟩;have:=HB3.out.size;omega
 rw[hlen];clear u0 u1 u2 u3 u4 u5 u6 HO vP HB3 hlen hg0 hg1;obtain⟨eb,Tm⟩:∃x,w3.heap.size=x:=⟨_,rfl⟩;obtain⟨w4,hw4⟩:∃W,w3.alloc (.cells #[.bool false,.int .i64 N] 104)=W:=⟨_,rfl⟩;rw[hw4]at vS⊢;rw[Tm]at vS⊢;clear hw4 Tm hml;have HOL:Hid (OL w cs (some ⟨b0,o0,none⟩) rc R N a g cap eb 0 RL w4):=vS;clear vS
 go_loopw [19] (fun s19 wr=> ∃(k:Nat) (RK:List (Value×Ru)),s19= .int .i64 k/\k<=R.length/\OL w cs (some ⟨b0,o0,none⟩) rc R N a g cap eb k RK wr) (fun s _=>R.length-(intOf s).toNat)
 case atStart=>exact⟨0,RL,rfl,Nat.zero_le _,HOL.out⟩
 case round=>
  obtain⟨k,RK,rfl,hk,hK⟩:=hrel;clear HOL;have HK:Hid (OL w cs (some ⟨b0,o0,none⟩) rc R N a g cap eb k RK wr):=hK;by_cases hlt:k<R.length
  ·obtain⟨b1,o1,rc1,qa,qc,hv,_,k1,k2,hsy⟩:=hK.box.rules.jF hlt
   cases hv;have lJ:=H2.out k hlt;obtain⟨⟨L,l⟩,hx⟩:∃x,R.getD k (0,[])=x:=⟨_,rfl⟩;rw[hx]at k1 k2 hsy lJ;simp only at k1 k2 hsy lJ;obtain⟨n,hn⟩:∃n,l.length=n:=⟨_,rfl⟩;rw[hn]at k2 hsy lJ;have HX:Hid (R.getD k (0,[])=(L,l)/\R[k]=(L,l)/\l.length=n):=⟨hx,by rw[<-hx];simp[List.getD,hlt],hn⟩;obtain⟨W1,hW1⟩:∃W,wr.alloc (.cells #[.int .i64 L,.slice qa n qc] 79)=W:=⟨_,rfl⟩;obtain⟨rb,hrb⟩:∃x,wr.heap.size=x:=⟨_,rfl⟩;have hB1:Below wr.heap.size wr W1:=by rw[<-hW1];exact(Below.refl _ _).alloc (Nat.le_refl _) _
   have r0:W1.cell? ⟨rb,0,none⟩=some (.int .i64 L):=by rw[<-hW1,<-hrb];exact ah (heap_alloc_new _ _) rfl
   have r1:W1.cell? ⟨rb,1,none⟩=some (.slice qa n qc):=by rw[<-hW1,<-hrb];exact ah (heap_alloc_new _ _) rfl
   have hK1:=hK.next hB1;have be:=Mh (w:=W1) (T:=T) (N:=N) (op:=op) (a:=a) (b:=b) (c:=c) (abt.out hK1.box) hlt;rw[hx]at be;obtain⟨x0,x1,x2,x3,x4,x5,x6⟩:=dA.out W1 hK1.box;have kT:Hid (∀wq,Below wr.heap.size wr wq->bK wq (.slice qa n qc) l):=fun wq hB=>hsy.same (iT hB);have HB1:Hid (Below wr.heap.size wr W1):=hB1;have HR:Hid (W1.cell? ⟨rb,0,none⟩=some (.int .i64 L)/\W1.cell? ⟨rb,1,none⟩=some (.slice qa n qc)):=⟨r0,r1⟩;have i0:(0:Int)<=(k:Int):=Int.natCast_nonneg _;have i1:(k:Int)<(R.length:Int):=by omega
   clear hK hx hn hsy hB1 hK1 r0 r1;cases hbe:gM a (L,l) with
   |true=>
    obtain⟨uH,ED⟩:L=a/\oP (L,l)=true:=by
     unfold gM at hbe;simp only[Bool.and_eq_true,decide_eq_true_eq]at hbe;exact hbe
    subst uH;rw[hbe]at be;have qZ:Hid (oP (L,l)=true):=ED
    have hn0:0<l.length:=by
     unfold oP at ED;simp only[Bool.and_eq_true,decide_eq_true_eq]at ED;exact ED.1.1
    rw[HX.out.2.2]at hn0;obtain⟨n,rfl⟩:∃m,n=m+1:=⟨n-1,by omega⟩;have Bw:Hid ((l.drop 1).length=n):=by show _=_;rw[List.length_drop,HX.out.2.2];omega
    obtain⟨A,hA,hA'⟩:=Kn (la:=qa) (f:=1) (n:=n) (sl:=n+1) (lc:=qc) (fi:=1) rfl (by omega);have zo:Hid (qc≠1->A=qa.map (·.add (1*2))):=hA';clear hbe ED hn0 hA'
    go_upto_region 7 with
     (go_at_call 45;refine be.mono ?_;rintro e w2 ⟨rfl,hB2⟩;clear be)
    obtain⟨Wd,hWd⟩:∃W,w2.drew=W:=⟨_,rfl⟩;have M5:Below W1.heap.size W1 Wd:=by rw[<-hWd];exact hB2.drew
    have hBd:Below wr.heap.size wr Wd:=HB1.out.trans (M5.mono HB1.out.size);have gU:Hid (OL w cs (some ⟨b0,o0,none⟩) rc R N L g cap eb k RK Wd):=HK.out.next hBd
    have HS:Hid (∀wq,Below Wd.heap.size Wd wq->(wq.cell? ⟨w.heap.size,0,none⟩=some (.int .i64 T)/\wq.cell? ⟨w.heap.size,1,none⟩=some (.int .i64 N)/\wq.cell? ⟨w.heap.size,2,none⟩=some (.slice (some ⟨b0,o0,none⟩) R.length rc)/\wq.cell? ⟨w.heap.size,3,none⟩=some (.int .i64 op)/\wq.cell? ⟨w.heap.size,4,none⟩=some (.int .i64 L)/\wq.cell? ⟨w.heap.size,5,none⟩=some (.int .i64 b)/\wq.cell? ⟨w.heap.size,6,none⟩=some (.int .i64 c))/\wq.cell? ⟨rb,1,none⟩=some (.slice qa (n+1) qc)):=fun wq hq=>by
     refine⟨dA.out wq (gU.out.next hq).box,?_⟩;have h1:=(M5.cell (World.block_lt_of_cell? _ _ HR.out.2)).trans HR.out.2;exact(hq.cell (World.block_lt_of_cell? _ _ h1)).trans h1
    have aO:Hid (∀wq,Below Wd.heap.size Wd wq->bK wq (.slice A n (qc-1)) (l.drop 1)):=fun wq hq=>by
     have h1:=kT.out wq (hBd.trans (hq.mono hBd.size));rw[<-HX.out.2.2]at h1;exact h1.Gm (by rw[HX.out.2.2];omega) zo.out
    have S0:=HS.out Wd (Below.refl _ _);clear hB2 M5 hBd x0 x1 x2 x3 x4 x5 x6 k1 k2 hW1 hrb;refine iw [0,1,2,3,6,7,8,9] 7 14 (fun wq=>(wq.cell? ⟨w.heap.size,0,none⟩=some (.int .i64 T)/\wq.cell? ⟨w.heap.size,1,none⟩=some (.int .i64 N)/\wq.cell? ⟨w.heap.size,2,none⟩=some (.slice (some ⟨b0,o0,none⟩) R.length rc)/\wq.cell? ⟨w.heap.size,3,none⟩=some (.int .i64 op)/\wq.cell? ⟨w.heap.size,4,none⟩=some (.int .i64 L)/\wq.cell? ⟨w.heap.size,5,none⟩=some (.int .i64 b)/\wq.cell? ⟨w.heap.size,6,none⟩=some (.int .i64 c))/\wq.cell? ⟨rb,1,none⟩=some (.slice qa (n+1) qc)) (by kernel_rfl) (by kernel_rfl) (by rw[hWd];exact S0) ?_;rw[hWd];clear hWd S0
    iterate 8
     refine aU.gN (v:= ?_) rfl (by rfl) ?_ ?_;rotate_left
     ·intro w' hSw
      obtain⟨⟨z0,z1,z2,z3,z4,z5,z6⟩,z7⟩:=hSw
      go_simp
      try with_reducible rfl
     simp only[Act.put,List.setIfInBounds_toArray,List.set_cons_zero,List.set_cons_succ]
    rw[aU];refine ax.two (i:=4) (i':=10) (by kernel_rfl) ⟨_,rfl,fun K hK=> ?_⟩ ⟨_,rfl,fun K hK=> ?_⟩
    ·have mo:=yG (w:=Wd) (T:=T) (N:=N) (ra:=some ⟨b0,o0,none⟩) (rn:=R.length) (rc:=rc) (op:=op) (a:=L) (b:=b) (c:=c)
     go_simp
     refine mo.mono ?_;rintro e w3 ⟨rfl,hB3⟩;dsimp only;refine hK.out _ _ (fun _=>HS.out w3 hB3) ?_;clear hK mo;refine ax.read (i:=5) (v:= .int .i64 N) rfl (by kernel_rfl) (by rfl) (fun w' _=>by unfold execOp;go_simp;unfold Instr.field asAgg;go_simp) (HS.out w3 hB3) ?_;simp only[Act.put,List.setIfInBounds_toArray,List.set_cons_zero,List.set_cons_succ];have aP:Below Wd.heap.size Wd (w3.alloc (.cells #[.slice A n (qc-1),.slice (some ⟨eb,0,none⟩) 1 1] 77)):=hB3.alloc hB3.size _;refine ax.one (i:=10) (by kernel_rfl) ⟨_,rfl,fun K hK=> ?_⟩
     go_simp
     refine hK.out _ _ (fun _=>HS.out _ aP) ?_;clear hK;have qB:(w3.alloc (.cells #[.slice A n (qc-1),.slice (some ⟨eb,0,none⟩) 1 1] 77)).cell? ⟨w3.heap.size,0,none⟩=some (.slice A n (qc-1)):=ah (heap_alloc_new _ _) rfl;have zx:(w3.alloc (.cells #[.slice A n (qc-1),.slice (some ⟨eb,0,none⟩) 1 1] 77)).cell? ⟨w3.heap.size,1,none⟩=some (.slice (some ⟨eb,0,none⟩) 1 1):=ah (heap_alloc_new _ _) rfl;obtain⟨pz,hpz⟩:∃x,w3.heap.size=x:=⟨_,rfl⟩;obtain⟨wz,hwz⟩:∃W,w3.alloc (.cells #[.slice A n (qc-1),.slice (some ⟨eb,0,none⟩) 1 1] 77)=W:=⟨_,rfl⟩;rw[hwz]at aP qB zx⊢;rw[hpz]at qB zx⊢;clear hwz hpz hB3;have cc:=KC (w:=wz) (pb:=pz) (va:= .slice A n (qc-1)) (vb:= .slice (some ⟨eb,0,none⟩) 1 1) (la:=l.drop 1) (lb:=[(false,(N:Int))]) qB zx (aO.out wz aP) (gU.out.next aP).ends (by rw[Bw.out];simp only[List.length_singleton];omega);rw[Bw.out]at cc;simp only[List.length_singleton]at cc;refine ax.one (i:=11) (by kernel_rfl) ⟨_,rfl,fun K hK=> ?_⟩
     go_simp
     refine cc.mono ?_;rintro e w6 ⟨a6,d6,rfl,hown6,aK⟩;dsimp only;have dL:Below Wd.heap.size Wd w6:=aP.trans (aK.mono aP.size);refine hK.out _ _ (fun _=>HS.out _ dL) ?_;clear hK cc;refine ax.one (i:=12) (by kernel_rfl) ⟨_,rfl,fun K hK=> ?_⟩
     go_simp
     refine hK.out _ _ (fun _=>HS.out _ dL) ?_;clear hK;refine ax.one (i:=13) (by kernel_rfl) ⟨_,rfl,fun K hK=> ?_⟩
     go_simp
     refine hK.out _ _ (fun _=>HS.out _ dL) ?_;clear hK;have bS:=gU.out.next dL;have rG:Hid (OL w cs (some ⟨b0,o0,none⟩) rc R N L g cap eb k RK w6):=bS;obtain⟨u,hu⟩:∃u,(dN RK)[k*2]?=some u:=⟨_,List.getElem?_eq_getElem (by rw[Al,bS.len];omega)⟩;obtain⟨u',hu'⟩:∃u,(dN RK)[k*2+1]?=some u:=⟨_,List.getElem?_eq_getElem (by rw[Al,bS.len];omega)⟩;have M6:w6.cell? ⟨g,k*2,none⟩=some u:=(bS.rl.own.cellAt (k*2) (by rw[bS.len];omega)).trans hu;have M7:w6.cell? ⟨g,k*2+1,none⟩=some u':=(bS.rl.own.cellAt (k*2+1) (by rw[bS.len];omega)).trans hu';have f60:w6.frozen? ⟨g,k*2,none⟩=false:=bS.rl.own.frozenAt (k*2);have f61:w6.frozen? ⟨g,k*2+1,none⟩=false:=bS.rl.own.frozenAt (k*2+1);refine ax.last (i:=14) (by kernel_rfl) ⟨_,rfl,fun K hK=> ?_⟩
     go_simp
     refine hK.out _ _ (fun h=>absurd h (by omega)) (NoPanic.normal ?_);have uQ:Hid (w6.ownsRow wz.heap.size 104 2 (.slice a6 (n+1) d6) (n+1) (bC (l.drop 1++[(false,(N:Int))]))):=hown6;have EF:Hid (Below Wd.heap.size Wd wz/\Below Wd.heap.size Wd w6):=⟨aP,dL⟩;clear hK hown6 aK dL bS hu hu' qB zx aP M6 M7 f60 f61
     go_wp2_with fail
     go_roundw
     case rel=>
      have hkk:k<RK.length:=by rw[rG.out.len];exact hlt
      have hll:(l.drop 1++[(false,(N:Int))]).length=n+1:=by rw[List.length_append,Bw.out];rfl
      have hlo:Wd.heap.size<=wz.heap.size:=EF.out.1.size;have hgl:g<Wd.heap.size:=(gU.out.rl.own.lt g rfl).2;have hgs:=gU.out.zk
      have EG:nJ w6 (fun b=>w.heap.size+2<=b/\b≠g) (.slice a6 (n+1) d6) (l.drop 1++[(false,(N:Int))]):=by
       have:=uQ.out;rw[<-hll]at this⊢;exact(wK this).kept (Nat.le_refl _) fun b hA _=>⟨rfl,by have:=hA.2;omega,by have:=hA.2;omega⟩
      have hS:=rG.out.rl.Ed (k:=k) hkk N EG;refine⟨k+1,_,by go_num,by omega,gU.out.set EF.out.2 (fun b hb=>by rw[Below.heap_setCell _ _ _ _ hb,Below.heap_setCell _ _ _ _ hb]) (by simp) rfl rfl rfl hS (by rw[List.length_set]) ?_⟩;refine rG.out.MR hlt ?_;rw[HX.out.2.1];unfold qA;rw[if_pos rfl,qZ.out,if_pos rfl]
     case measure=>simp[intOf];omega
    ·have cZ:Below Wd.heap.size Wd (Wd.alloc (.cells #[.slice A n (qc-1),.slice (some ⟨eb,0,none⟩) 1 1] 77)):=(Below.refl _ _).alloc (Nat.le_refl _) _
     go_simp
     refine hK.out _ _ (fun _=>HS.out _ cZ) ?_;clear hK;have sZ:(Wd.alloc (.cells #[.slice A n (qc-1),.slice (some ⟨eb,0,none⟩) 1 1] 77)).cell? ⟨Wd.heap.size,0,none⟩=some (.slice A n (qc-1)):=ah (heap_alloc_new _ _) rfl;have EH:(Wd.alloc (.cells #[.slice A n (qc-1),.slice (some ⟨eb,0,none⟩) 1 1] 77)).cell? ⟨Wd.heap.size,1,none⟩=some (.slice (some ⟨eb,0,none⟩) 1 1):=ah (heap_alloc_new _ _) rfl;obtain⟨pz,hpz⟩:∃x,Wd.heap.size=x:=⟨_,rfl⟩;obtain⟨wy,kZ⟩:∃W,Wd.alloc (.cells #[.slice A n (qc-1),.slice (some ⟨eb,0,none⟩) 1 1] 77)=W:=⟨_,rfl⟩;rw[kZ]at cZ sZ EH⊢;rw[hpz]at sZ EH⊢;clear kZ hpz;have mo:=yG (w:=wy) (T:=T) (N:=N) (ra:=some ⟨b0,o0,none⟩) (rn:=R.length) (rc:=rc) (op:=op) (a:=L) (b:=b) (c:=c);refine ax.one (i:=4) (by kernel_rfl) ⟨_,rfl,fun K hK=> ?_⟩
     go_simp
     refine mo.mono ?_;rintro e wz ⟨rfl,hB3⟩;dsimp only;have aP:Below Wd.heap.size Wd wz:=cZ.trans (hB3.mono cZ.size);have qB:=(hB3.cell (World.block_lt_of_cell? _ _ sZ)).trans sZ;have zx:=(hB3.cell (World.block_lt_of_cell? _ _ EH)).trans EH;refine hK.out _ _ (fun _=>HS.out wz aP) ?_;clear hK mo;refine ax.read (i:=5) (v:= .int .i64 N) rfl (by kernel_rfl) (by rfl) (fun w' _=>by unfold execOp;go_simp;unfold Instr.field asAgg;go_simp) (HS.out wz aP) ?_;simp only[Act.put,List.setIfInBounds_toArray,List.set_cons_zero,List.set_cons_succ];clear hB3 cZ sZ EH;have cc:=KC (w:=wz) (pb:=pz) (va:= .slice A n (qc-1)) (vb:= .slice (some ⟨eb,0,none⟩) 1 1) (la:=l.drop 1) (lb:=[(false,(N:Int))]) qB zx (aO.out wz aP) (gU.out.next aP).ends (by rw[Bw.out];simp only[List.length_singleton];omega);rw[Bw.out]at cc;simp only[List.length_singleton]at cc;refine ax.one (i:=11) (by kernel_rfl) ⟨_,rfl,fun K hK=> ?_⟩
     go_simp
     refine cc.mono ?_;rintro e w6 ⟨a6,d6,rfl,hown6,aK⟩;dsimp only;have dL:Below Wd.heap.size Wd w6:=aP.trans (aK.mono aP.size);refine hK.out _ _ (fun _=>HS.out _ dL) ?_;clear hK cc;refine ax.one (i:=12) (by kernel_rfl) ⟨_,rfl,fun K hK=> ?_⟩
     go_simp
     refine hK.out _ _ (fun _=>HS.out _ dL) ?_;clear hK;refine ax.one (i:=13) (by kernel_rfl) ⟨_,rfl,fun K hK=> ?_⟩
     go_simp
     refine hK.out _ _ (fun _=>HS.out _ dL) ?_;clear hK;have bS:=gU.out.next dL;have rG:Hid (OL w cs (some ⟨b0,o0,none⟩) rc R N L g cap eb k RK w6):=bS;obtain⟨u,hu⟩:∃u,(dN RK)[k*2]?=some u:=⟨_,List.getElem?_eq_getElem (by rw[Al,bS.len];omega)⟩;obtain⟨u',hu'⟩:∃u,(dN RK)[k*2+1]?=some u:=⟨_,List.getElem?_eq_getElem (by rw[Al,bS.len];omega)⟩;have M6:w6.cell? ⟨g,k*2,none⟩=some u:=(bS.rl.own.cellAt (k*2) (by rw[bS.len];omega)).trans hu;have M7:w6.cell? ⟨g,k*2+1,none⟩=some u':=(bS.rl.own.cellAt (k*2+1) (by rw[bS.len];omega)).trans hu';have f60:w6.frozen? ⟨g,k*2,none⟩=false:=bS.rl.own.frozenAt (k*2);have f61:w6.frozen? ⟨g,k*2+1,none⟩=false:=bS.rl.own.frozenAt (k*2+1);refine ax.last (i:=14) (by kernel_rfl) ⟨_,rfl,fun K hK=> ?_⟩
     go_simp
     refine hK.out _ _ (fun h=>absurd h (by omega)) (NoPanic.normal ?_);have uQ:Hid (w6.ownsRow wz.heap.size 104 2 (.slice a6 (n+1) d6) (n+1) (bC (l.drop 1++[(false,(N:Int))]))):=hown6;have EF:Hid (Below Wd.heap.size Wd wz/\Below Wd.heap.size Wd w6):=⟨aP,dL⟩;clear hK hown6 aK dL bS hu hu' qB zx aP M6 M7 f60 f61
     go_wp2_with fail
     go_roundw
     case rel=>
      have hkk:k<RK.length:=by rw[rG.out.len];exact hlt
      have hll:(l.drop 1++[(false,(N:Int))]).length=n+1:=by rw[List.length_append,Bw.out];rfl
      have hlo:Wd.heap.size<=wz.heap.size:=EF.out.1.size;have hgl:g<Wd.heap.size:=(gU.out.rl.own.lt g rfl).2;have hgs:=gU.out.zk
      have EG:nJ w6 (fun b=>w.heap.size+2<=b/\b≠g) (.slice a6 (n+1) d6) (l.drop 1++[(false,(N:Int))]):=by
       have:=uQ.out;rw[<-hll]at this⊢;exact(wK this).kept (Nat.le_refl _) fun b hA _=>⟨rfl,by have:=hA.2;omega,by have:=hA.2;omega⟩
      have hS:=rG.out.rl.Ed (k:=k) hkk N EG;refine⟨k+1,_,by go_num,by omega,gU.out.set EF.out.2 (fun b hb=>by rw[Below.heap_setCell _ _ _ _ hb,Below.heap_setCell _ _ _ _ hb]) (by simp) rfl rfl rfl hS (by rw[List.length_set]) ?_⟩;refine rG.out.MR hlt ?_;rw[HX.out.2.1];unfold qA;rw[if_pos rfl,qZ.out,if_pos rfl]
     case measure=>simp[intOf];omega
   |false=>
    rw[hbe]at be;have mr:Hid (gM a (L,l)=false):=hbe;clear hbe;by_cases uH:L=a
    ·subst uH
     have e1:(L==L)=true:=by simp
     go_wp2_with
      (first
       |(go_at_call 45;refine be.mono ?_;rintro e w2 ⟨rfl,hB2⟩;clear be
         have hB2':Below wr.heap.size wr w2:=HB1.out.trans (hB2.mono HB1.out.size);have c4:=(dA.out w2 (HK.out.next hB2').box).2.2.2.2.1;have c0:=(hB2.cell (World.block_lt_of_cell? _ _ HR.out.1)).trans HR.out.1;have c1:=(hB2.cell (World.block_lt_of_cell? _ _ HR.out.2)).trans HR.out.2;have hB3:Below w2.heap.size w2 (w2.alloc (.cells #[.slice qa n qc,.slice (some ⟨eb,0,none⟩) 1 1] 77)):=(Below.refl _ _).alloc (Nat.le_refl _) _;have qh:=hB2'.trans (hB3.mono hB2'.size);have cc:=KC (w:=w2.alloc (.cells #[.slice qa n qc,.slice (some ⟨eb,0,none⟩) 1 1] 77)) (pb:=w2.heap.size) (va:= .slice qa n qc) (vb:= .slice (some ⟨eb,0,none⟩) 1 1) (la:=l) (lb:=[(false,(N:Int))]) (ah (heap_alloc_new _ _) rfl) (ah (heap_alloc_new _ _) rfl) (kT.out _ qh) (HK.out.next qh).ends (by rw[HX.out.2.2];simp only[List.length_singleton];omega);rw[HX.out.2.2]at cc;simp only[List.length_singleton]at cc;have HB3:Hid (Below wr.heap.size wr (w2.alloc (.cells #[.slice qa n qc,.slice (some ⟨eb,0,none⟩) 1 1] 77))):=qh
         clear hB2 hB2' hB3 qh)
       |(go_at_call 143;refine cc.mono ?_;rintro e w6 ⟨a6,d6,rfl,hown6,aK⟩;clear cc
         have jM:Hid (Below wr.heap.size wr w6):=HB3.out.trans (aK.mono HB3.out.size);have bS:=HK.out.next jM.out;have rG:Hid (OL w cs (some ⟨b0,o0,none⟩) rc R N L g cap eb k RK w6):=bS;obtain⟨u,hu⟩:∃u,(dN RK)[k*2+1]?=some u:=⟨_,List.getElem?_eq_getElem (by rw[Al,bS.len];omega)⟩;have c6:w6.cell? ⟨g,k*2+1,none⟩=some u:=(bS.rl.own.cellAt (k*2+1) (by rw[bS.len];omega)).trans hu;have f6:w6.frozen? ⟨g,k*2+1,none⟩=false:=bS.rl.own.frozenAt (k*2+1);have uQ:Hid (w6.ownsRow (w2.alloc (.cells #[.slice qa n qc,.slice (some ⟨eb,0,none⟩) 1 1] 77)).heap.size 104 2 (.slice a6 (n+1) d6) (n+1) (bC (l++[(false,(N:Int))]))):=hown6
         clear aK bS hown6 hu))
     go_roundw
     case rel=>
      have hkk:k<RK.length:=by rw[rG.out.len];exact hlt
      have hll:(l++[(false,(N:Int))]).length=n+1:=by rw[List.length_append,HX.out.2.2];rfl
      have hlo:wr.heap.size<=(w2.alloc (.cells #[.slice qa n qc,.slice (some ⟨eb,0,none⟩) 1 1] 77)).heap.size:=HB3.out.size;have hgl:g<wr.heap.size:=(HK.out.rl.own.lt g rfl).2;have hgs:=HK.out.zk
      have EG:nJ w6 (fun b=>w.heap.size+2<=b/\b≠g) (.slice a6 (n+1) d6) (l++[(false,(N:Int))]):=by
       have:=uQ.out;rw[<-hll]at this⊢;exact(wK this).kept (Nat.le_refl _) fun b hA _=>⟨rfl,by have:=hA.2;omega,by have:=hA.2;omega⟩
      have hS:=rG.out.rl.SS (k:=k) hkk EG;rw[rG.out.here hlt hkk,HX.out.2.1]at hS;refine⟨k+1,_,by go_num,by omega,HK.out.set jM.out (fun b hb=>Below.heap_setCell _ _ _ _ hb) (by simp) rfl rfl rfl hS (by rw[List.length_set]) ?_⟩;refine rG.out.MR hlt ?_;rw[HX.out.2.1];unfold qA
      have hnO:oP (L,l)=false:=by
       have:=mr.out;unfold gM at this;simpa using this
      rw[if_pos rfl,hnO];rfl
     case measure=>simp[intOf];omega
    ·have e1:(L==a)=false:=by simpa using uH
     go_wp2_with
      (go_at_call 45;refine be.mono ?_;rintro e w2 ⟨rfl,hB2⟩;clear be
       have hB2':Below wr.heap.size wr w2:=HB1.out.trans (hB2.mono HB1.out.size);have c4:=(dA.out w2 (HK.out.next hB2').box).2.2.2.2.1;have c0:=(hB2.cell (World.block_lt_of_cell? _ _ HR.out.1)).trans HR.out.1
       clear hB2)
     go_roundw
     case rel=>
      have hK2:=HK.out.next hB2';refine⟨k+1,RK,by go_num,by omega,hK2.box,hK2.rl,hK2.len,?_,hK2.Bo,hK2.ne,hK2.zk⟩;rw[hK2.map];refine aa6 hlt ?_;rw[HX.out.2.1];unfold qA;rw[if_neg uH]
     case measure=>simp[intOf];omega
  ·have hkk:k=R.length:=by omega
   have mo:=yG (w:=wr) (T:=T) (N:=N) (ra:=some ⟨b0,o0,none⟩) (rn:=R.length) (rc:=rc) (op:=op) (a:=a) (b:=b) (c:=c);obtain⟨x0,x1,x2,x3,x4,x5,x6⟩:=dA.out wr hK.box;have Ez:Hid (k=R.length):=hkk;have hfd:=fun w=>aa5 (t:=false) (v:=(N:Int)) w;clear hK hkk
   go_wp2_with
    (first
     |(go_at_call 144;refine mo.mono ?_;rintro e w3 ⟨rfl,hB3⟩;clear mo
       have hB4:Below wr.heap.size wr (w3.alloc (.cells #[.int .i64 N,.slice none 0 0] 79)):=hB3.alloc hB3.size _;have hrow:dI (w3.alloc (.cells #[.int .i64 N,.slice none 0 0] 79)) (.slice (some ⟨w3.heap.size,0,none⟩) 1 1) 1 [.int .i64 N,.slice none 0 0]:=Ap;have d9:=(HK.out.next hB4).rl.own;rw[HK.out.len]at d9;have hb4:w.heap.size+2<=(w3.alloc (.cells #[.int .i64 N,.slice none 0 0] 79)).heap.size:=Nat.le_trans HK.out.box.size hB4.size;have hl4:R.length+1<=100000:=by omega
       have bB:Hid (Below wr.heap.size wr (w3.alloc (.cells #[.int .i64 N,.slice none 0 0] 79))):=hB4
       clear hB3 hB4)
     |(at_builtin
       refine CQ rfl _ _ rfl rfl rfl rfl d9 hrow hb4 hl4 ?_;intro a' d' w6 hown6 hgrow hat;have aK:Below (w.heap.size+2) wr w6:=(bB.out.mono HK.out.box.size).grown hgrow hb4 fun k hk=>(d9.lt k hk).1;have Bz:=HK.out.box.later aK
       have xG:bA w6 (w.heap.size+2) (.slice a' (R.length+1) d') (RK++[(.slice none 0 0,((N:Int),[]))]):=by
        refine HK.out.rl.Gp (w5:=w3.alloc (.cells #[.int .i64 N,.slice none 0 0] 79)) HK.out.box.size bB.out (World.ownsRow_nil _ _ _ _) hgrow ?_ ?_
        ·rw[Ao,HK.out.len]
         exact hown6
        ·intro g hg
         exact(hat g hg).imp id fun e=>by omega
       obtain⟨y0,y1,y2,y3,y4,y5,y6⟩:=dA.out w6 Bz;have HC6:Hid (cu w cs 114 (some ⟨b0,o0,none⟩) rc R w6):=Bz;have HF:Hid (bA w6 (w.heap.size+2) (.slice a' (R.length+1) d') (RK++[(.slice none 0 0,((N:Int),[]))])):=xG;have wi:=CV (w:=w6) (T:=T) (N:=N) (ra:=some ⟨b0,o0,none⟩) (rn:=R.length) (rc:=rc) (op:=op) (a:=a) (b:=b) (c:=c) (M:=(N:Int)+1) (oa:=a') (on:=R.length+1) (oc:=d')
       clear hrow d9 hb4 hown6 hgrow hat aK Bz xG x0 x1 x2 x3 x4 x5 x6)
     |(go_at_call 136;refine wi.mono ?_;rintro e w7 ⟨rfl,bD⟩
       have gH:Hid (cu w cs 114 (some ⟨b0,o0,none⟩) rc R w7):=HC6.out.next bD;have zn:Hid (bA w7 (w.heap.size+2) (.slice a' (R.length+1) d') (RK++[(.slice none 0 0,((N:Int),[]))])):=HF.out.below bD;have z0:=gH.out.y0;have z1:=gH.out.y1;have z2:=gH.out.y2;have LA:=gH.out.yf 0;have LB:=gH.out.yf 1;have Ta:=gH.out.yf 2
       clear wi bD y0 y1 y2 y3 y4 y5 y6))
   have q0:=tX (v0:= .int .i64 T) (v1:= .int .i64 (N+1)) (v2:= .slice a' (R.length+1) d') z0;have q1:=tY (v0:= .int .i64 T) (v1:= .int .i64 (N+1)) (v2:= .slice a' (R.length+1) d') z1;have q2:=tZ (v0:= .int .i64 T) (v1:= .int .i64 (N+1)) (v2:= .slice a' (R.length+1) d') z2;refine bodyPost_ret (v:= .agg #[.int .i64 T,.int .i64 (N+1),.slice a' (R.length+1) d']) (by simp[results,Tryz.results157,go_sem,q0,q1,q2]) rfl ?_;have ho:=gH.out.out zn.out (.int .i64 T) (.int .i64 (N+1)) (.slice a' (R.length+1) d');refine⟨_,_,rfl,ho.1,?_,ho.2⟩;rw[List.map_append,HK.out.map,Ez.out];simp
end Go.Proofs.YtpkmpkphfflpjaaGreat
