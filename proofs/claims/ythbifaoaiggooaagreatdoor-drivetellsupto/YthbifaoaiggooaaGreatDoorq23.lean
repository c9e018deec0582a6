import Derived.Test.YthbifaoaiggooaaGreatDoorq21
import Derived.Test.YthbifaoaiggooaaGreatDoorq22
set_option maxHeartbeats 12800000
set_option maxRecDepth 100000
namespace Go.Proofs.YthbifaoaiggooaaGreatDoor
open Go.RowKit
theorem ah3{w:World}{T:Int}{N:Nat}{ra:Option Addr}{rc:Nat}{op a b c:Int}{R:List Ru}(hr:aG w w.heap.size (.slice ra R.length rc) R)(h0:0<R.length)(hl:R.length<=1000)(hl2:∀q,q<R.length->(R.getD q (0,[])).2.length<=1000)(hN:N<=1000):
 Calls Tryz.prog 248 #[.agg #[.int .i64 T,.int .i64 N,.slice ra R.length rc,.int .i64 op,.int .i64 a,.int .i64 b,.int .i64 c]] w λe w'=> ∃lv RL,e= .returned (.agg #[.int .i64 T,.int .i64 (N+1),lv])/\bA w' w.heap.size lv RL/\(RL.map λx=>x.2)=R.map (uy N a)++[((N:Int),[])]/\Below w.heap.size w w':=by
 obtain⟨cs,hcs⟩:∃cs:Array Value,#[.int .i64 T,.int .i64 N,.slice ra R.length rc,.int .i64 op,.int .i64 a,.int .i64 b,.int .i64 c]=cs:=⟨_,rfl⟩;have hC0:dm w cs 249 ra rc R ((w.alloc (.cells cs 249)).alloc (.cells #[.int .i64 0,.int .i64 0,.slice none 0 0] 27)):=ME hr;rw[<-hcs]at hC0;obtain⟨W0,hW0⟩:=af ((w.alloc (.cells #[.int .i64 T,.int .i64 N,.slice ra R.length rc,.int .i64 op,.int .i64 a,.int .i64 b,.int .i64 c] 249)).alloc (.cells #[.int .i64 0,.int .i64 0,.slice none 0 0] 27));rw[hW0,hcs]at hC0;have xX:Hid (#[.int .i64 T,.int .i64 N,.slice ra R.length rc,.int .i64 op,.int .i64 a,.int .i64 b,.int .i64 c]=cs):=hcs
 have dM:Hid (∀wq,dm w cs 249 ra rc R wq->wq.cell? ⟨w.heap.size,0,none⟩=some (.int .i64 T)/\wq.cell? ⟨w.heap.size,1,none⟩=some (.int .i64 N)/\wq.cell? ⟨w.heap.size,2,none⟩=some (.slice ra R.length rc)/\wq.cell? ⟨w.heap.size,3,none⟩=some (.int .i64 op)/\wq.cell? ⟨w.heap.size,4,none⟩=some (.int .i64 a)/\wq.cell? ⟨w.heap.size,5,none⟩=some (.int .i64 b)/\wq.cell? ⟨w.heap.size,6,none⟩=some (.int .i64 c)):=λwq hq=>by
  refine⟨hq.cell ?_,hq.cell ?_,hq.cell ?_,hq.cell ?_,hq.cell ?_,hq.cell ?_,hq.cell ?_⟩<;>(rw[<-xX.out];rfl)
 have hmono:∀{wq:World},dm w cs 249 ra rc R wq->aG wq wq.heap.size (.slice ra R.length rc) R:=λ{wq} hq=>hq.rules.mono (aZ (by omega) hq.size);have ah4:Hid (∀{wq:World},dm w cs 249 ra rc R wq->aG wq wq.heap.size (.slice ra R.length rc) R):=hmono;obtain⟨x0,x1,x2,x3,x4,x5,x6⟩:=dM.out W0 hC0;have cop:=MC (w:=W0) (T:=T) (N:=N) (op:=op) (a:=a) (b:=b) (c:=c) (hmono hC0) hl hl2;obtain⟨b0,o0,_,_,_,hv,_⟩:=hC0.rules.2 0 h0;cases hv;have mq:Hid (dm w cs 249 (some ⟨b0,o0,none⟩) rc R W0):=hC0;have H2:Hid (∀q,q<R.length->(R.getD q (0,[])).2.length<=1000):=hl2;have hml:∀w3:World,∃W,w3.alloc (.cells #[.bool false,.int .i64 N] 121)=W:=λ_=>⟨_,rfl⟩;clear hr hl2 hC0 hcs hmono
 go_enter Tryz.func248,Tryz.ntmps248
 go_wp2_with
  (first
   |(go_at_call 231;refine cop.mono ?_;rintro e wq ⟨lv,RL,rfl,hO,hmap,pV⟩;clear cop
     have zG:Hid (Below W0.heap.size W0 wq):=pV;have HO:Hid (aA wq W0.heap.size (jy lv RL)/\(RL.map λx=>x.2)=R):=⟨hO,hmap⟩;obtain⟨v0,v1,v2,v3,v4,v5,v6⟩:=dM.out wq (mq.out.next pV);have mo:=CV (w:=wq) (T:=T) (N:=N) (ra:=some ⟨b0,o0,none⟩) (rn:=R.length) (rc:=rc) (op:=op) (a:=a) (b:=b) (c:=c)
     clear pV hO hmap x0 x1 x2 x3 x4 x5 x6 hW0)
   |(go_at_call 239;refine mo.mono ?_;rintro e w3 ⟨rfl,hB3⟩;clear mo
     have Z8:=(mq.out.next zG.out).next (hB3.alloc hB3.size (.cells #[.bool false,.int .i64 N] 121));obtain⟨u0,u1,u2,u3,u4,u5,u6⟩:=dM.out _ Z8;have HB3:Hid (Below wq.heap.size wq w3):=hB3
     clear v0 v1 v2 v3 v4 v5 v6 Z8 hB3))
 have hlen:RL.length=R.length:=by rw[<-HO.out.2,cK]
 obtain⟨g,cap,hlv,hg0,hg1⟩:=HO.out.1.ul.form (by omega);subst hlv
 have zD:OL w cs (some ⟨b0,o0,none⟩) rc R N a g cap w3.heap.size 0 RL (w3.alloc (.cells #[.bool false,.int .i64 N] 121)):=by
  have hB4:Below wq.heap.size wq (w3.alloc (.cells #[.bool false,.int .i64 N] 121)):=HB3.out.alloc HB3.out.size _;refine⟨(mq.out.next zG.out).next hB4,(HO.out.1.Jf.mono mq.out.size).below hB4,hlen,by rw[HO.out.2];simp,heap_alloc_new _ _,?_,aZ mq.out.size hg0⟩;have:=HB3.out.size;omega
 rw[hlen];clear u0 u1 u2 u3 u4 u5 u6 HO zG HB3 hlen hg0 hg1;obtain⟨eb,Z9⟩:=af w3.heap.size;obtain⟨w4,hw4⟩:=af (w3.alloc (.cells #[.bool false,.int .i64 N] 121));rw[hw4]at zD⊢;rw[Z9]at zD⊢;clear hw4 Z9 hml;have HOL:Hid (OL w cs (some ⟨b0,o0,none⟩) rc R N a g cap eb 0 RL w4):=zD;clear zD
 go_loopw [19] (λs19 wr=> ∃(k:Nat) (RK:List (Value×Ru)),s19= .int .i64 k/\k<=R.length/\OL w cs (some ⟨b0,o0,none⟩) rc R N a g cap eb k RK wr) (λs _=>R.length-(intOf s).toNat)
 case atStart=>exact⟨0,RL,rfl,aP _,HOL.out⟩
 case round=>
  obtain⟨k,RK,rfl,hk,hK⟩:=hrel;clear HOL;have HK:Hid (OL w cs (some ⟨b0,o0,none⟩) rc R N a g cap eb k RK wr):=hK;by_cases hlt:k<R.length
  ·obtain⟨b1,o1,rc1,qa,qc,hv,_,k1,k2,hsy⟩:=hK.box.rules.mR hlt
   cases hv;have nE:=H2.out k hlt;obtain⟨⟨L,l⟩,hx⟩:=af (R.getD k (0,[]));rw[hx]at k1 k2 hsy nE;simp only at k1 k2 hsy nE;obtain⟨n,hn⟩:=af l.length;rw[hn]at k2 hsy nE;have HX:Hid (R.getD k (0,[])=(L,l)/\R[k]=(L,l)/\l.length=n):=⟨hx,by rw[<-hx];simp[List.getD,hlt],hn⟩;obtain⟨W1,hW1⟩:=af (wr.alloc (.cells #[.int .i64 L,.slice qa n qc] 96));obtain⟨rb,hrb⟩:=af wr.heap.size;have hB1:Below wr.heap.size wr W1:=by rw[<-hW1];exact(ai _ _).alloc (ah _) _
   have r0:W1.cell? ⟨rb,0,none⟩=some (.int .i64 L):=by rw[<-hW1,<-hrb];exact aM (heap_alloc_new _ _) rfl
   have r1:W1.cell? ⟨rb,1,none⟩=some (.slice qa n qc):=by rw[<-hW1,<-hrb];exact aM (heap_alloc_new _ _) rfl
   have hK1:=hK.next hB1;have be:=Zc (w:=W1) (T:=T) (N:=N) (op:=op) (a:=a) (b:=b) (c:=c) (ah4.out hK1.box) hlt;rw[hx]at be;obtain⟨x0,x1,x2,x3,x4,x5,x6⟩:=dM.out W1 hK1.box;have l7:Hid (∀wq,Below wr.heap.size wr wq->dh wq (.slice qa n qc) l):=λwq hB=>hsy.same (ko hB);have HB1:Hid (Below wr.heap.size wr W1):=hB1;have HR:Hid (W1.cell? ⟨rb,0,none⟩=some (.int .i64 L)/\W1.cell? ⟨rb,1,none⟩=some (.slice qa n qc)):=⟨r0,r1⟩;have i0:(0:Int)<=(k:Int):=aF _;have i1:(k:Int)<(R.length:Int):=by omega
   clear hK hx hn hsy hB1 hK1 r0 r1;cases hbe:kT a (L,l) with
   |true=>
    obtain⟨yA,Ju⟩:L=a/\zP (L,l)=true:=by
     unfold kT at hbe;simp only[bG,bX]at hbe;exact hbe
    subst yA;rw[hbe]at be;have uW:Hid (zP (L,l)=true):=Ju
    have hn0:0<l.length:=by
     unfold zP at Ju;simp only[bG,bX]at Ju;exact Ju.1.1
    rw[HX.out.2.2]at hn0;obtain⟨n,rfl⟩:∃m,n=m+1:=⟨n-1,by omega⟩;have Fy:Hid ((l.drop 1).length=n):=by show _=_;rw[pE,HX.out.2.2];omega
    obtain⟨A,hA,hA'⟩:=QW (la:=qa) (f:=1) (n:=n) (sl:=n+1) (lc:=qc) (fi:=1) rfl (by omega);have CQ:Hid (qc≠1->A=qa.map (·.add (1*2))):=hA';clear hbe Ju hn0 hA'
    go_upto_region 7 with
     (go_at_call 161;refine be.mono ?_;rintro e w2 ⟨rfl,hB2⟩;clear be)
    obtain⟨Wd,hWd⟩:=af w2.drew;have RA:Below W1.heap.size W1 Wd:=by rw[<-hWd];exact hB2.drew
    have hBd:Below wr.heap.size wr Wd:=HB1.out.trans (RA.mono HB1.out.size);have kU:Hid (OL w cs (some ⟨b0,o0,none⟩) rc R N L g cap eb k RK Wd):=HK.out.next hBd
    have HS:Hid (∀wq,Below Wd.heap.size Wd wq->(wq.cell? ⟨w.heap.size,0,none⟩=some (.int .i64 T)/\wq.cell? ⟨w.heap.size,1,none⟩=some (.int .i64 N)/\wq.cell? ⟨w.heap.size,2,none⟩=some (.slice (some ⟨b0,o0,none⟩) R.length rc)/\wq.cell? ⟨w.heap.size,3,none⟩=some (.int .i64 op)/\wq.cell? ⟨w.heap.size,4,none⟩=some (.int .i64 L)/\wq.cell? ⟨w.heap.size,5,none⟩=some (.int .i64 b)/\wq.cell? ⟨w.heap.size,6,none⟩=some (.int .i64 c))/\wq.cell? ⟨rb,1,none⟩=some (.slice qa (n+1) qc)):=λwq hq=>by
     refine⟨dM.out wq (kU.out.next hq).box,?_⟩;have h1:=(RA.cell (aQ _ _ HR.out.2)).trans HR.out.2;exact(hq.cell (aQ _ _ h1)).trans h1
    have HSd:Hid (∀wq,Below Wd.heap.size Wd wq->dh wq (.slice A n (qc-1)) (l.drop 1)):=λwq hq=>by
     have h1:=l7.out wq (hBd.trans (hq.mono hBd.size));rw[<-HX.out.2.2]at h1;exact h1.MF (by rw[HX.out.2.2];omega) CQ.out
    have S0:=HS.out Wd (ai _ _);clear hB2 RA hBd x0 x1 x2 x3 x4 x5 x6 k1 k2 hW1 hrb;refine mK [0,1,2,3,6,7,8,9] 7 14 (λwq=>(wq.cell? ⟨w.heap.size,0,none⟩=some (.int .i64 T)/\wq.cell? ⟨w.heap.size,1,none⟩=some (.int .i64 N)/\wq.cell? ⟨w.heap.size,2,none⟩=some (.slice (some ⟨b0,o0,none⟩) R.length rc)/\wq.cell? ⟨w.heap.size,3,none⟩=some (.int .i64 op)/\wq.cell? ⟨w.heap.size,4,none⟩=some (.int .i64 L)/\wq.cell? ⟨w.heap.size,5,none⟩=some (.int .i64 b)/\wq.cell? ⟨w.heap.size,6,none⟩=some (.int .i64 c))/\wq.cell? ⟨rb,1,none⟩=some (.slice qa (n+1) qc)) (by kernel_rfl) (by kernel_rfl) (by rw[hWd];exact S0) ?_;rw[hWd];clear hWd S0
    iterate 8
     refine aW.zQ (v:= ?_) rfl (by rfl) ?_ ?_;rotate_left
     ·intro w' hSw
      obtain⟨⟨z0,z1,z2,z3,z4,z5,z6⟩,z7⟩:=hSw
      go_simp
      try with_reducible rfl
     simp only[Act.put,eB,List.set_cons_zero,List.set_cons_succ]
    rw[aW];refine aC.two (i:=4) (i':=10) (by kernel_rfl) ⟨_,rfl,λK hK=> ?_⟩ ⟨_,rfl,λK hK=> ?_⟩
    ·have mo:=CV (w:=Wd) (T:=T) (N:=N) (ra:=some ⟨b0,o0,none⟩) (rn:=R.length) (rc:=rc) (op:=op) (a:=L) (b:=b) (c:=c)
     go_simp
     refine mo.mono ?_;rintro e w3 ⟨rfl,hB3⟩;dsimp only;refine hK.out _ _ (λ_=>HS.out w3 hB3) ?_;clear hK mo;refine aC.read (i:=5) (v:= .int .i64 N) rfl (by kernel_rfl) (by rfl) (λw' _=>by unfold execOp;go_simp;unfold Instr.field asAgg;go_simp) (HS.out w3 hB3) ?_;simp only[Act.put,eB,List.set_cons_zero,List.set_cons_succ];have dQ:Below Wd.heap.size Wd (w3.alloc (.cells #[.slice A n (qc-1),.slice (some ⟨eb,0,none⟩) 1 1] 94)):=hB3.alloc hB3.size _;refine aC.one (i:=10) (by kernel_rfl) ⟨_,rfl,λK hK=> ?_⟩
     go_simp
     refine hK.out _ _ (λ_=>HS.out _ dQ) ?_;clear hK;have uz:(w3.alloc (.cells #[.slice A n (qc-1),.slice (some ⟨eb,0,none⟩) 1 1] 94)).cell? ⟨w3.heap.size,0,none⟩=some (.slice A n (qc-1)):=aM (heap_alloc_new _ _) rfl;have Dg:(w3.alloc (.cells #[.slice A n (qc-1),.slice (some ⟨eb,0,none⟩) 1 1] 94)).cell? ⟨w3.heap.size,1,none⟩=some (.slice (some ⟨eb,0,none⟩) 1 1):=aM (heap_alloc_new _ _) rfl;obtain⟨pz,hpz⟩:=af w3.heap.size;obtain⟨wz,hwz⟩:=af (w3.alloc (.cells #[.slice A n (qc-1),.slice (some ⟨eb,0,none⟩) 1 1] 94));rw[hwz]at dQ uz Dg⊢;rw[hpz]at uz Dg⊢;clear hwz hpz hB3;have cc:=Ra (w:=wz) (pb:=pz) (va:= .slice A n (qc-1)) (vb:= .slice (some ⟨eb,0,none⟩) 1 1) (la:=l.drop 1) (lb:=[(false,(N:Int))]) uz Dg (HSd.out wz dQ) (kU.out.next dQ).ends (by rw[Fy.out];simp only[List.length_singleton];omega);rw[Fy.out]at cc;simp only[List.length_singleton]at cc;refine aC.one (i:=11) (by kernel_rfl) ⟨_,rfl,λK hK=> ?_⟩
     go_simp
     refine cc.mono ?_;rintro e w6 ⟨a6,d6,rfl,hown6,bC⟩;dsimp only;have iO:Below Wd.heap.size Wd w6:=dQ.trans (bC.mono dQ.size);refine hK.out _ _ (λ_=>HS.out _ iO) ?_;clear hK cc;refine aC.one (i:=12) (by kernel_rfl) ⟨_,rfl,λK hK=> ?_⟩
     go_simp
     refine hK.out _ _ (λ_=>HS.out _ iO) ?_;clear hK;refine aC.one (i:=13) (by kernel_rfl) ⟨_,rfl,λK hK=> ?_⟩
     go_simp
     refine hK.out _ _ (λ_=>HS.out _ iO) ?_;clear hK;have iE:=kU.out.next iO;have l9:Hid (OL w cs (some ⟨b0,o0,none⟩) rc R N L g cap eb k RK w6):=iE;obtain⟨u,hu⟩:∃u,(dY RK)[k*2]?=some u:=⟨_,pq (by rw[Fa,iE.len];omega)⟩;obtain⟨u',hu'⟩:∃u,(dY RK)[k*2+1]?=some u:=⟨_,pq (by rw[Fa,iE.len];omega)⟩;have RB:w6.cell? ⟨g,k*2,none⟩=some u:=(iE.rl.own.cellAt (k*2) (by rw[iE.len];omega)).trans hu;have RD:w6.cell? ⟨g,k*2+1,none⟩=some u':=(iE.rl.own.cellAt (k*2+1) (by rw[iE.len];omega)).trans hu';have f60:w6.frozen? ⟨g,k*2,none⟩=false:=iE.rl.own.frozenAt (k*2);have f61:w6.frozen? ⟨g,k*2+1,none⟩=false:=iE.rl.own.frozenAt (k*2+1);refine aC.last (i:=14) (by kernel_rfl) ⟨_,rfl,λK hK=> ?_⟩
     go_simp
     refine hK.out _ _ (λh=>absurd h (by omega)) (NoPanic.normal ?_);have xZ:Hid (w6.ownsRow wz.heap.size 121 2 (.slice a6 (n+1) d6) (n+1) (bD (l.drop 1++[(false,(N:Int))]))):=hown6;have Jv:Hid (Below Wd.heap.size Wd wz/\Below Wd.heap.size Wd w6):=⟨dQ,iO⟩;clear hK hown6 bC iO iE hu hu' uz Dg dQ RB RD f60 f61
     go_wp2_with fail
     go_roundw
     case rel=>
      have hkk:k<RK.length:=by rw[l9.out.len];exact hlt
      have hll:(l.drop 1++[(false,(N:Int))]).length=n+1:=by rw[aS,Fy.out];rfl
      have hlo:Wd.heap.size<=wz.heap.size:=Jv.out.1.size;have hgl:g<Wd.heap.size:=(kU.out.rl.own.lt g rfl).2;have hgs:=kU.out.C8
      have Jw:rZ w6 (λb=>w.heap.size+2<=b/\b≠g) (.slice a6 (n+1) d6) (l.drop 1++[(false,(N:Int))]):=by
       have:=xZ.out;rw[<-hll]at this⊢;exact(E8 this).kept (ah _) λb hA _=>⟨rfl,by have:=hA.2;omega,by have:=hA.2;omega⟩
      have hS:=l9.out.rl.ZJ (k:=k) hkk N Jw;refine⟨k+1,_,by go_num,by omega,kU.out.set Jv.out.2 (λb hb=>by rw[gm _ _ _ _ hb,gm _ _ _ _ hb]) (by simp) rfl rfl rfl hS (by rw[qU]) ?_⟩;refine l9.out.Rv hlt ?_;rw[HX.out.2.1];unfold uy;rw[au rfl,uW.out,au rfl]
     case measure=>simp[intOf];omega
    ·have wI:Below Wd.heap.size Wd (Wd.alloc (.cells #[.slice A n (qc-1),.slice (some ⟨eb,0,none⟩) 1 1] 94)):=(ai _ _).alloc (ah _) _
     go_simp
     refine hK.out _ _ (λ_=>HS.out _ wI) ?_;clear hK;have wJ:(Wd.alloc (.cells #[.slice A n (qc-1),.slice (some ⟨eb,0,none⟩) 1 1] 94)).cell? ⟨Wd.heap.size,0,none⟩=some (.slice A n (qc-1)):=aM (heap_alloc_new _ _) rfl;have Jy:(Wd.alloc (.cells #[.slice A n (qc-1),.slice (some ⟨eb,0,none⟩) 1 1] 94)).cell? ⟨Wd.heap.size,1,none⟩=some (.slice (some ⟨eb,0,none⟩) 1 1):=aM (heap_alloc_new _ _) rfl;obtain⟨pz,hpz⟩:=af Wd.heap.size;obtain⟨wy,Jt⟩:=af (Wd.alloc (.cells #[.slice A n (qc-1),.slice (some ⟨eb,0,none⟩) 1 1] 94));rw[Jt]at wI wJ Jy⊢;rw[hpz]at wJ Jy⊢;clear Jt hpz;have mo:=CV (w:=wy) (T:=T) (N:=N) (ra:=some ⟨b0,o0,none⟩) (rn:=R.length) (rc:=rc) (op:=op) (a:=L) (b:=b) (c:=c);refine aC.one (i:=4) (by kernel_rfl) ⟨_,rfl,λK hK=> ?_⟩
     go_simp
     refine mo.mono ?_;rintro e wz ⟨rfl,hB3⟩;dsimp only;have dQ:Below Wd.heap.size Wd wz:=wI.trans (hB3.mono wI.size);have uz:=(hB3.cell (aQ _ _ wJ)).trans wJ;have Dg:=(hB3.cell (aQ _ _ Jy)).trans Jy;refine hK.out _ _ (λ_=>HS.out wz dQ) ?_;clear hK mo;refine aC.read (i:=5) (v:= .int .i64 N) rfl (by kernel_rfl) (by rfl) (λw' _=>by unfold execOp;go_simp;unfold Instr.field asAgg;go_simp) (HS.out wz dQ) ?_;simp only[Act.put,eB,List.set_cons_zero,List.set_cons_succ];clear hB3 wI wJ Jy;have cc:=Ra (w:=wz) (pb:=pz) (va:= .slice A n (qc-1)) (vb:= .slice (some ⟨eb,0,none⟩) 1 1) (la:=l.drop 1) (lb:=[(false,(N:Int))]) uz Dg (HSd.out wz dQ) (kU.out.next dQ).ends (by rw[Fy.out];simp only[List.length_singleton];omega);rw[Fy.out]at cc;simp only[List.length_singleton]at cc;refine aC.one (i:=11) (by kernel_rfl) ⟨_,rfl,λK hK=> ?_⟩
     go_simp
     refine cc.mono ?_;rintro e w6 ⟨a6,d6,rfl,hown6,bC⟩;dsimp only;have iO:Below Wd.heap.size Wd w6:=dQ.trans (bC.mono dQ.size);refine hK.out _ _ (λ_=>HS.out _ iO) ?_;clear hK cc;refine aC.one (i:=12) (by kernel_rfl) ⟨_,rfl,λK hK=> ?_⟩
     go_simp
     refine hK.out _ _ (λ_=>HS.out _ iO) ?_;clear hK;refine aC.one (i:=13) (by kernel_rfl) ⟨_,rfl,λK hK=> ?_⟩
     go_simp
     refine hK.out _ _ (λ_=>HS.out _ iO) ?_;clear hK;have iE:=kU.out.next iO;have l9:Hid (OL w cs (some ⟨b0,o0,none⟩) rc R N L g cap eb k RK w6):=iE;obtain⟨u,hu⟩:∃u,(dY RK)[k*2]?=some u:=⟨_,pq (by rw[Fa,iE.len];omega)⟩;obtain⟨u',hu'⟩:∃u,(dY RK)[k*2+1]?=some u:=⟨_,pq (by rw[Fa,iE.len];omega)⟩;have RB:w6.cell? ⟨g,k*2,none⟩=some u:=(iE.rl.own.cellAt (k*2) (by rw[iE.len];omega)).trans hu;have RD:w6.cell? ⟨g,k*2+1,none⟩=some u':=(iE.rl.own.cellAt (k*2+1) (by rw[iE.len];omega)).trans hu';have f60:w6.frozen? ⟨g,k*2,none⟩=false:=iE.rl.own.frozenAt (k*2);have f61:w6.frozen? ⟨g,k*2+1,none⟩=false:=iE.rl.own.frozenAt (k*2+1);refine aC.last (i:=14) (by kernel_rfl) ⟨_,rfl,λK hK=> ?_⟩
     go_simp
     refine hK.out _ _ (λh=>absurd h (by omega)) (NoPanic.normal ?_);have xZ:Hid (w6.ownsRow wz.heap.size 121 2 (.slice a6 (n+1) d6) (n+1) (bD (l.drop 1++[(false,(N:Int))]))):=hown6;have Jv:Hid (Below Wd.heap.size Wd wz/\Below Wd.heap.size Wd w6):=⟨dQ,iO⟩;clear hK hown6 bC iO iE hu hu' uz Dg dQ RB RD f60 f61
     go_wp2_with fail
     go_roundw
     case rel=>
      have hkk:k<RK.length:=by rw[l9.out.len];exact hlt
      have hll:(l.drop 1++[(false,(N:Int))]).length=n+1:=by rw[aS,Fy.out];rfl
      have hlo:Wd.heap.size<=wz.heap.size:=Jv.out.1.size;have hgl:g<Wd.heap.size:=(kU.out.rl.own.lt g rfl).2;have hgs:=kU.out.C8
      have Jw:rZ w6 (λb=>w.heap.size+2<=b/\b≠g) (.slice a6 (n+1) d6) (l.drop 1++[(false,(N:Int))]):=by
       have:=xZ.out;rw[<-hll]at this⊢;exact(E8 this).kept (ah _) λb hA _=>⟨rfl,by have:=hA.2;omega,by have:=hA.2;omega⟩
      have hS:=l9.out.rl.ZJ (k:=k) hkk N Jw;refine⟨k+1,_,by go_num,by omega,kU.out.set Jv.out.2 (λb hb=>by rw[gm _ _ _ _ hb,gm _ _ _ _ hb]) (by simp) rfl rfl rfl hS (by rw[qU]) ?_⟩;refine l9.out.Rv hlt ?_;rw[HX.out.2.1];unfold uy;rw[au rfl,uW.out,au rfl]
     case measure=>simp[intOf];omega
   |false=>
    rw[hbe]at be;have nT:Hid (kT a (L,l)=false):=hbe;clear hbe;by_cases yA:L=a
    ·subst yA
     have e1:(L==L)=true:=by simp
     go_wp2_with
      (first
       |(go_at_call 161;refine be.mono ?_;rintro e w2 ⟨rfl,hB2⟩;clear be
         have hB2':Below wr.heap.size wr w2:=HB1.out.trans (hB2.mono HB1.out.size);have c4:=(dM.out w2 (HK.out.next hB2').box).2.2.2.2.1;have c0:=(hB2.cell (aQ _ _ HR.out.1)).trans HR.out.1;have c1:=(hB2.cell (aQ _ _ HR.out.2)).trans HR.out.2;have hB3:Below w2.heap.size w2 (w2.alloc (.cells #[.slice qa n qc,.slice (some ⟨eb,0,none⟩) 1 1] 94)):=(ai _ _).alloc (ah _) _;have M7:=hB2'.trans (hB3.mono hB2'.size);have cc:=Ra (w:=w2.alloc (.cells #[.slice qa n qc,.slice (some ⟨eb,0,none⟩) 1 1] 94)) (pb:=w2.heap.size) (va:= .slice qa n qc) (vb:= .slice (some ⟨eb,0,none⟩) 1 1) (la:=l) (lb:=[(false,(N:Int))]) (aM (heap_alloc_new _ _) rfl) (aM (heap_alloc_new _ _) rfl) (l7.out _ M7) (HK.out.next M7).ends (by rw[HX.out.2.2];simp only[List.length_singleton];omega);rw[HX.out.2.2]at cc;simp only[List.length_singleton]at cc;have HB3:Hid (Below wr.heap.size wr (w2.alloc (.cells #[.slice qa n qc,.slice (some ⟨eb,0,none⟩) 1 1] 94))):=M7
         clear hB2 hB2' hB3 M7)
       |(go_at_call 238;refine cc.mono ?_;rintro e w6 ⟨a6,d6,rfl,hown6,bC⟩;clear cc
         have wH:Hid (Below wr.heap.size wr w6):=HB3.out.trans (bC.mono HB3.out.size);have iE:=HK.out.next wH.out;have l9:Hid (OL w cs (some ⟨b0,o0,none⟩) rc R N L g cap eb k RK w6):=iE;obtain⟨u,hu⟩:∃u,(dY RK)[k*2+1]?=some u:=⟨_,pq (by rw[Fa,iE.len];omega)⟩;have c6:w6.cell? ⟨g,k*2+1,none⟩=some u:=(iE.rl.own.cellAt (k*2+1) (by rw[iE.len];omega)).trans hu;have f6:w6.frozen? ⟨g,k*2+1,none⟩=false:=iE.rl.own.frozenAt (k*2+1);have xZ:Hid (w6.ownsRow (w2.alloc (.cells #[.slice qa n qc,.slice (some ⟨eb,0,none⟩) 1 1] 94)).heap.size 121 2 (.slice a6 (n+1) d6) (n+1) (bD (l++[(false,(N:Int))]))):=hown6
         clear bC iE hown6 hu))
     go_roundw
     case rel=>
      have hkk:k<RK.length:=by rw[l9.out.len];exact hlt
      have hll:(l++[(false,(N:Int))]).length=n+1:=by rw[aS,HX.out.2.2];rfl
      have hlo:wr.heap.size<=(w2.alloc (.cells #[.slice qa n qc,.slice (some ⟨eb,0,none⟩) 1 1] 94)).heap.size:=HB3.out.size;have hgl:g<wr.heap.size:=(HK.out.rl.own.lt g rfl).2;have hgs:=HK.out.C8
      have Jw:rZ w6 (λb=>w.heap.size+2<=b/\b≠g) (.slice a6 (n+1) d6) (l++[(false,(N:Int))]):=by
       have:=xZ.out;rw[<-hll]at this⊢;exact(E8 this).kept (ah _) λb hA _=>⟨rfl,by have:=hA.2;omega,by have:=hA.2;omega⟩
      have hS:=l9.out.rl.gI (k:=k) hkk Jw;rw[l9.out.here hlt hkk,HX.out.2.1]at hS;refine⟨k+1,_,by go_num,by omega,HK.out.set wH.out (λb hb=>gm _ _ _ _ hb) (by simp) rfl rfl rfl hS (by rw[qU]) ?_⟩;refine l9.out.Rv hlt ?_;rw[HX.out.2.1];unfold uy
      have hnO:zP (L,l)=false:=by
       have:=nT.out;unfold kT at this;simpa using this
      rw[au rfl,hnO];rfl
     case measure=>simp[intOf];omega
    ·have e1:(L==a)=false:=by simpa using yA
     go_wp2_with
      (go_at_call 161;refine be.mono ?_;rintro e w2 ⟨rfl,hB2⟩;clear be
       have hB2':Below wr.heap.size wr w2:=HB1.out.trans (hB2.mono HB1.out.size);have c4:=(dM.out w2 (HK.out.next hB2').box).2.2.2.2.1;have c0:=(hB2.cell (aQ _ _ HR.out.1)).trans HR.out.1
       clear hB2)
     go_roundw
     case rel=>
      have hK2:=HK.out.next hB2';refine⟨k+1,RK,by go_num,by omega,hK2.box,hK2.rl,hK2.len,?_,hK2.Fs,hK2.ne,hK2.C8⟩;rw[hK2.map];refine ahF hlt ?_;rw[HX.out.2.1];unfold uy;rw[aj yA]
     case measure=>simp[intOf];omega
  ·have hkk:k=R.length:=by omega
   have mo:=CV (w:=wr) (T:=T) (N:=N) (ra:=some ⟨b0,o0,none⟩) (rn:=R.length) (rc:=rc) (op:=op) (a:=a) (b:=b) (c:=c);obtain⟨x0,x1,x2,x3,x4,x5,x6⟩:=dM.out wr hK.box;have Jq:Hid (k=R.length):=hkk;have hfd:=λw=>ahE (t:=false) (v:=(N:Int)) w;clear hK hkk
   go_wp2_with
    (first
     |(go_at_call 239;refine mo.mono ?_;rintro e w3 ⟨rfl,hB3⟩;clear mo
       have hB4:Below wr.heap.size wr (w3.alloc (.cells #[.int .i64 N,.slice none 0 0] 96)):=hB3.alloc hB3.size _;have hrow:gT (w3.alloc (.cells #[.int .i64 N,.slice none 0 0] 96)) (.slice (some ⟨w3.heap.size,0,none⟩) 1 1) 1 [.int .i64 N,.slice none 0 0]:=Fe;have eU:=(HK.out.next hB4).rl.own;rw[HK.out.len]at eU;have hb4:w.heap.size+2<=(w3.alloc (.cells #[.int .i64 N,.slice none 0 0] 96)).heap.size:=aZ HK.out.box.size hB4.size;have hl4:R.length+1<=100000:=by omega
       have jm:Hid (Below wr.heap.size wr (w3.alloc (.cells #[.int .i64 N,.slice none 0 0] 96))):=hB4
       clear hB3 hB4)
     |(at_builtin
       refine Jd rfl _ _ rfl rfl rfl rfl eU hrow hb4 hl4 ?_;intro a' d' w6 hown6 hgrow hat;have bC:Below (w.heap.size+2) wr w6:=(jm.out.mono HK.out.box.size).grown hgrow hb4 λk hk=>(eU.lt k hk).1;have Fz:=HK.out.box.later bC
       have BI:bA w6 (w.heap.size+2) (.slice a' (R.length+1) d') (RK++[(.slice none 0 0,((N:Int),[]))]):=by
        refine HK.out.rl.MH (w5:=w3.alloc (.cells #[.int .i64 N,.slice none 0 0] 96)) HK.out.box.size jm.out (ji _ _ _ _) hgrow ?_ ?_
        ·rw[Fb,HK.out.len]
         exact hown6
        ·intro g hg
         exact(hat g hg).imp id λe=>by omega
       obtain⟨y0,y1,y2,y3,y4,y5,y6⟩:=dM.out w6 Fz;have HC6:Hid (dm w cs 249 (some ⟨b0,o0,none⟩) rc R w6):=Fz;have HF:Hid (bA w6 (w.heap.size+2) (.slice a' (R.length+1) d') (RK++[(.slice none 0 0,((N:Int),[]))])):=BI;have wi:=Je (w:=w6) (T:=T) (N:=N) (ra:=some ⟨b0,o0,none⟩) (rn:=R.length) (rc:=rc) (op:=op) (a:=a) (b:=b) (c:=c) (M:=(N:Int)+1) (oa:=a') (on:=R.length+1) (oc:=d')
       clear hrow eU hb4 hown6 hgrow hat bC Fz BI x0 x1 x2 x3 x4 x5 x6)
     |(go_at_call 233;refine wi.mono ?_;rintro e w7 ⟨rfl,iM⟩
       have iH:Hid (dm w cs 249 (some ⟨b0,o0,none⟩) rc R w7):=HC6.out.next iM;have xA:Hid (bA w7 (w.heap.size+2) (.slice a' (R.length+1) d') (RK++[(.slice none 0 0,((N:Int),[]))])):=HF.out.below iM;have z0:=iH.out.y0;have z1:=iH.out.y1;have z2:=iH.out.y2;have ZQ:=iH.out.yf 0;have ZR:=iH.out.yf 1;have ZU:=iH.out.yf 2
       clear wi iM y0 y1 y2 y3 y4 y5 y6))
   have q0:=yu (v0:= .int .i64 T) (v1:= .int .i64 (N+1)) (v2:= .slice a' (R.length+1) d') z0;have q1:=yw (v0:= .int .i64 T) (v1:= .int .i64 (N+1)) (v2:= .slice a' (R.length+1) d') z1;have q2:=yx (v0:= .int .i64 T) (v1:= .int .i64 (N+1)) (v2:= .slice a' (R.length+1) d') z2;refine aH (v:= .agg #[.int .i64 T,.int .i64 (N+1),.slice a' (R.length+1) d']) (by simp[results,Tryz.results248,go_sem,q0,q1,q2]) rfl ?_;have ho:=iH.out.out xA.out (.int .i64 T) (.int .i64 (N+1)) (.slice a' (R.length+1) d');refine⟨_,_,rfl,ho.1,?_,ho.2⟩;rw[fD,HK.out.map,Jq.out];simp
theorem aac{IX:List Nat}{k:Nat}(hk:k<IX.length):(IX.map λ(n:Nat)=>(n:Int)).getD k 0=((IX.getD k 0:Nat):Int):=by simp[List.getD,hk]
section
variable{w:World}{T N:Nat}{ra:Option Addr}{rc:Nat}{R:List Ru}{s:Stp}{cv:Value}
theorem aad{B:Nat}(hc:iU w B T N ra rc R s cv)(hr:aG w w.heap.size (.slice ra R.length rc) R)(hm:aJ T N R=true)(hs:bK N R s=true):
 ∃ty v fn,cv= .iface ty v/\(∀n w',(method (n+1) ty v "pollarding/step.outcome").run Tryz.prog w'= .ok (fn,v) w')/\(∀args w',(callFunc fn args).run Tryz.prog w'= .ok (.enter fn args) w')/\
  Calls Tryz.prog fn #[v] w λe w'=> ∃lv RL,e= .returned (.agg #[.int .i64 T,.int .i64 (nX N s:Nat),lv])/\bA w' w.heap.size lv RL/\(RL.map λx=>x.2)=je N R s/\Below w.heap.size w w':=by
 obtain⟨hT,hN1,hN,hRl,h5⟩:=iD hm;have hl2:∀q,q<R.length->(R.getD q (0,[])).2.length<=1000:=λq hq=>by have:=(h5 q hq).2.2.1;omega
 obtain⟨op,a,b,c⟩:=s;by_cases h1:op=1
 ·subst h1
  refine⟨_,_,229,hc.swap rfl,λn w'=>by kernel_rfl,λargs w'=>by simp[callFunc,Tryz.func229,Tryz.f229 ],?_⟩;refine(ahK hr (by omega) hl2).mono ?_;rintro e w' ⟨lv,RL,rfl,h1,h2,h3⟩;exact⟨lv,RL,rfl,h1,by rw[h2];exact ahL,h3⟩
 by_cases h2:op=2
 ·subst h2
  have hst:(0<=a/\a<(R.length:Int)/\0<=b/\b<c/\c<=((R.getD a.toNat (0,[])).2.length:Int)):=by
   unfold bK at hs;simp only at hs;rw[aj (by decide),au trivial]at hs;simp only[bG,bX]at hs;exact⟨hs.1.1.1.1,hs.1.1.1.2,hs.1.1.2,hs.1.2,hs.2⟩
  refine⟨_,_,237,hc.extract rfl,λn w'=>by kernel_rfl,λargs w'=>by simp[callFunc,Tryz.func237,Tryz.f237 ],?_⟩;obtain⟨ka,rfl⟩:∃x:Nat,a=x:=⟨a.toNat,by omega⟩;obtain⟨bn,rfl⟩:∃x:Nat,b=x:=⟨b.toNat,by omega⟩;obtain⟨cn,rfl⟩:∃x:Nat,c=x:=⟨c.toNat,by omega⟩;simp only[Int.toNat_natCast]at hst;obtain⟨⟨L,l⟩,hx⟩:=af (R.getD ka (0,[]));rw[hx]at hst;simp only at hst;refine(ahR (m:=l.length-cn) hr (by omega) hl2 (by omega) (by omega) hx (by omega) (by omega)).mono ?_;rintro e w' ⟨lv,RL,rfl,h1,h2,h3⟩;exact⟨lv,RL,rfl,h1,by rw[h2];exact ahN hx,h3⟩
 by_cases h3:op=3
 ·subst h3
  have hst:(0<=a/\a<(R.length:Int)/\0<=b/\b<((R.getD a.toNat (0,[])).2.length:Int)/\c=0/\((R.getD a.toNat (0,[])).2.getD b.toNat (false,0)).1=false):=by
   unfold bK at hs;simp only at hs;rw[aj (by decide),aj (by decide),au trivial]at hs;simp only[bG,bX,FE,decide_eq_false_iff_not]at hs;obtain⟨⟨⟨⟨⟨⟨h1,h2⟩,h3⟩,h4⟩,h5⟩,h6⟩,h7⟩:=hs;exact⟨h1,h2,h3,h4,h5,h6⟩
  obtain⟨ov,hcv,hLo⟩:=hc.inline rfl;have hL:=Zq hLo;obtain⟨oa,oc,hov⟩:=hL.1;subst hov;clear hLo;refine⟨_,_,243,hcv,λn w'=>by kernel_rfl,λargs w'=>by simp[callFunc,Tryz.func243,Tryz.f243 ],?_⟩;obtain⟨ka,rfl⟩:∃x:Nat,a=x:=⟨a.toNat,by omega⟩;obtain⟨bn,rfl⟩:∃x:Nat,b=x:=⟨b.toNat,by omega⟩;obtain⟨rfl⟩:c=0:=hst.2.2.2.2.1;simp only[Int.toNat_natCast]at hst;obtain⟨⟨L,l⟩,hx⟩:=af (R.getD ka (0,[]));rw[hx]at hst;simp only at hst;obtain⟨⟨t,X⟩,hX⟩:=af (l.getD bn (false,0));rw[hX]at hst;obtain⟨rfl⟩:t=false:=hst.2.2.2.2.2
  have hix:Jp R ⟨3,ka,bn,0⟩=bL (λk=>decide ((R.getD k (0,[])).1=X)) R.length:=by
   unfold Jp BH;simp only[Int.toNat_natCast,hx,hX]
  rw[hix]at hL⊢;refine(ahZ (m:=l.length-(bn+1)) hr (by omega) hl2 (by omega) hx (by omega) hL (λk hk=> ?_) (by have:=MK (λk=>decide ((R.getD k (0,[])).1=X)) R.length;rw[cK];omega)).mono ?_
  ·have hk':k<(bL (λk=>decide ((R.getD k (0,[])).1=X)) R.length).length:=by simpa using hk
   have hlt:=Zp hk';rw[aac hk'];omega
  ·rintro e w' ⟨lv,RL,rfl,h1,h2,h3⟩
   exact⟨lv,RL,rfl,h1,by rw[h2];exact ahQ (by omega) hx hX,h3⟩
 by_cases h4:op=4
 ·subst h4
  have h0:0<R.length:=by
   unfold bK at hs;simp only at hs;rw[aj (by decide),aj (by decide),aj (by decide),au trivial]at hs;simp only[bG,uj,List.any_eq_true]at hs;obtain⟨_,⟨r,hr,_⟩,_⟩:=hs;exact List.length_pos_of_mem hr
  refine⟨_,_,248,hc.left rfl,λn w'=>by kernel_rfl,λargs w'=>by simp[callFunc,Tryz.func248,Tryz.f248 ],?_⟩;refine(ah3 hr h0 (by omega) hl2 (by omega)).mono ?_;rintro e w' ⟨lv,RL,rfl,h1,h2,h3⟩;exact⟨lv,RL,rfl,h1,by rw[h2];exact ahM,h3⟩
 by_cases h5:op=5
 ·subst h5
  obtain⟨ov,hcv,hLo⟩:=hc.MZ rfl;have hL:=Zq hLo;obtain⟨oa,oc,hov⟩:=hL.1;subst hov;clear hLo;refine⟨_,_,251,hcv,λn w'=>by kernel_rfl,λargs w'=>by simp[callFunc,Tryz.func251,Tryz.f251 ],?_⟩;refine(agQ hr hl2 hL (λk hk=> ?_) (by have:=MK (λk=>uY N R (R.getD k (0,[]))) R.length;rw[cK];omega)).mono ?_
  ·have hk':k<(bL (λk=>uY N R (R.getD k (0,[]))) R.length).length:=by simpa using hk
   have hlt:=Zp hk';rw[aac hk'];omega
  ·rintro e w' ⟨lv,RL,rfl,h1,h2,h3⟩
   exact⟨lv,RL,rfl,h1,by rw[h2];exact ahO,h3⟩
 ·exfalso
  unfold bK at hs;simp[h1,h2,h3,h4,h5]at hs
end
structure dH(w:World)(T N:Int)(ra:Option Addr)(rc:Nat)(R:List Ru)(s:Stp)(wq:World):Prop where
 g:wq.heap[w.heap.size]?=some (.cells #[.int .i64 T,.int .i64 N,.slice ra R.length rc] 27 (0,0))
 s:wq.heap[w.heap.size+1]?=some (.cells #[.int .i64 s.op,.int .i64 s.a,.int .i64 s.b,.int .i64 s.c] 86 (0,0))
 r:wq.heap[w.heap.size+2]?=some (.cells #[.int .i64 0,.int .i64 0,.slice none 0 0] 27 (0,0))
 rules:aG wq w.heap.size (.slice ra R.length rc) R
 below:Below w.heap.size w wq
section
variable{w wq w':World}{T N:Int}{ra:Option Addr}{rc:Nat}{R:List Ru}{s:Stp}
theorem dH.size(h:dH w T N ra rc R s wq):w.heap.size+3<=wq.heap.size:=by
 have:=(dx.1 h.r).1;omega
theorem dH.next(h:dH w T N ra rc R s wq)(hb:Below wq.heap.size wq w'):dH w T N ra rc R s w':=by
 have hz:=h.size;exact⟨(hb.block _ (by omega)).trans h.g,(hb.block _ (by omega)).trans h.s,(hb.block _ (by omega)).trans h.r,h.rules.below (hb.mono (by omega)),h.below.trans (hb.mono (by omega))⟩
theorem dH.all(h:dH w T N ra rc R s wq):aG wq wq.heap.size (.slice ra R.length rc) R:=h.rules.mono h.below.size
theorem dH.g0(h:dH w T N ra rc R s wq):wq.cell? ⟨w.heap.size,0,none⟩=some (.int .i64 T):=aM h.g rfl
theorem dH.g1(h:dH w T N ra rc R s wq):wq.cell? ⟨w.heap.size,1,none⟩=some (.int .i64 N):=aM h.g rfl
theorem dH.g2(h:dH w T N ra rc R s wq):wq.cell? ⟨w.heap.size,2,none⟩=some (.slice ra R.length rc):=aM h.g rfl
theorem dH.s0(h:dH w T N ra rc R s wq):wq.cell? ⟨w.heap.size+1,0,none⟩=some (.int .i64 s.op):=aM h.s rfl
theorem dH.s1(h:dH w T N ra rc R s wq):wq.cell? ⟨w.heap.size+1,1,none⟩=some (.int .i64 s.a):=aM h.s rfl
theorem dH.s2(h:dH w T N ra rc R s wq):wq.cell? ⟨w.heap.size+1,2,none⟩=some (.int .i64 s.b):=aM h.s rfl
theorem dH.s3(h:dH w T N ra rc R s wq):wq.cell? ⟨w.heap.size+1,3,none⟩=some (.int .i64 s.c):=aM h.s rfl
theorem dH.y0(h:dH w T N ra rc R s wq):wq.cell? ⟨w.heap.size+2,0,none⟩=some (.int .i64 0):=aM h.r rfl
theorem dH.y1(h:dH w T N ra rc R s wq):wq.cell? ⟨w.heap.size+2,1,none⟩=some (.int .i64 0):=aM h.r rfl
theorem dH.y2(h:dH w T N ra rc R s wq):wq.cell? ⟨w.heap.size+2,2,none⟩=some (.slice none 0 0):=aM h.r rfl
theorem dH.yf(h:dH w T N ra rc R s wq)(o:Nat):wq.frozen? ⟨w.heap.size+2,o,none⟩=false:=Q7 h.r
theorem dH.set(h:dH w T N ra rc R s wq)(v0 v1 v2:Value):Below w.heap.size w (((wq.setCell ⟨w.heap.size+2,0,none⟩ v0).setCell ⟨w.heap.size+2,1,none⟩ v1).setCell ⟨w.heap.size+2,2,none⟩ v2):=
 ((h.below.setCell (by simp) _).setCell (by simp) _).setCell (by simp) _
theorem Jz(hr:aG w w.heap.size (.slice ra R.length rc) R):dH w T N ra rc R s (((w.alloc (.cells #[.int .i64 T,.int .i64 N,.slice ra R.length rc] 27)).alloc (.cells #[.int .i64 s.op,.int .i64 s.a,.int .i64 s.b,.int .i64 s.c] 86)).alloc (.cells #[.int .i64 0,.int .i64 0,.slice none 0 0] 27)):=by
 obtain⟨w1,hw1⟩:=af (w.alloc (.cells #[.int .i64 T,.int .i64 N,.slice ra R.length rc] 27));have b1:Below w.heap.size w w1:=by rw[<-hw1];exact(ai _ _).alloc (ah _) _
 have z1:w1.heap.size=w.heap.size+1:=by rw[<-hw1];simp
 have c1:w1.heap[w.heap.size]?=some (.cells #[.int .i64 T,.int .i64 N,.slice ra R.length rc] 27 (0,0)):=by rw[<-hw1];exact heap_alloc_new _ _
 rw[hw1];obtain⟨w2,hw2⟩:=af (w1.alloc (.cells #[.int .i64 s.op,.int .i64 s.a,.int .i64 s.b,.int .i64 s.c] 86));have b2:Below w1.heap.size w1 w2:=by rw[<-hw2];exact(ai _ _).alloc (ah _) _
 have z2:w2.heap.size=w.heap.size+2:=by rw[<-hw2];simp[z1]
 have c2:w2.heap[w1.heap.size]?=some (.cells #[.int .i64 s.op,.int .i64 s.a,.int .i64 s.b,.int .i64 s.c] 86 (0,0)):=by rw[<-hw2];exact heap_alloc_new _ _
 rw[hw2];obtain⟨w3,hw3⟩:=af (w2.alloc (.cells #[.int .i64 0,.int .i64 0,.slice none 0 0] 27));have b3:Below w2.heap.size w2 w3:=by rw[<-hw3];exact(ai _ _).alloc (ah _) _
 have c3:w3.heap[w2.heap.size]?=some (.cells #[.int .i64 0,.int .i64 0,.slice none 0 0] 27 (0,0)):=by rw[<-hw3];exact heap_alloc_new _ _
 rw[hw3];rw[z1]at c2;rw[z2]at c3;have hB:Below w.heap.size w w3:=b1.trans ((b2.mono b1.size).trans (b3.mono (by omega)));exact⟨(b3.block _ (by omega)).trans ((b2.block _ (by omega)).trans c1),(b3.block _ (by omega)).trans c2,c3,hr.below hB,hB⟩
end
theorem ah5{w:World}{T N:Int}{ra:Option Addr}{rc:Nat}{R:List Ru}(hr:aG w w.heap.size (.slice ra R.length rc) R)(hm:aJ T N R=false)(s:Stp):
 Calls Tryz.prog 62 #[.agg #[.int .i64 T,.int .i64 N,.slice ra R.length rc],.agg #[.int .i64 s.op,.int .i64 s.a,.int .i64 s.b,.int .i64 s.c]] w λe w'=>e= .returned (.tuple #[.nilIface,.agg #[.int .i64 0,.int .i64 0,.slice none 0 0],.int .i64 2])/\Below w.heap.size w w':=by
 obtain⟨W0,hW0⟩:=af (((w.alloc (.cells #[.int .i64 T,.int .i64 N,.slice ra R.length rc] 27)).alloc (.cells #[.int .i64 s.op,.int .i64 s.a,.int .i64 s.b,.int .i64 s.c] 86)).alloc (.cells #[.int .i64 0,.int .i64 0,.slice none 0 0] 27));have hT0:=Jz (T:=T) (N:=N) (s:=s) hr;rw[hW0]at hT0;have HT:Hid (dH w T N ra rc R s W0):=hT0;have may:=oD (w:=W0) (T:=T) (N:=N) hT0.all;rw[hm]at may;have g0:=hT0.g0;have g1:=hT0.g1;have g2:=hT0.g2;clear hr hm hT0
 go_enter Tryz.func62,Tryz.ntmps62
 go_wp2_with
  (go_at_call 18;refine may.mono ?_;rintro e w2 ⟨rfl,hB2⟩
   have gF:=HT.out.next hB2;have y0:=gF.y0;have y1:=gF.y1;have y2:=gF.y2;have Ff:=gF.yf 0;have Fg:=gF.yf 1;have Fh:=gF.yf 2;have JA:Hid (dH w T N ra rc R s w2):=gF
   clear gF hB2 may)
 have q0:=yu (v0:= .int .i64 0) (v1:= .int .i64 0) (v2:= .slice none 0 0) y0;have q1:=yw (v0:= .int .i64 0) (v1:= .int .i64 0) (v2:= .slice none 0 0) y1;have q2:=yx (v0:= .int .i64 0) (v1:= .int .i64 0) (v2:= .slice none 0 0) y2;refine aH (v:= .tuple #[.nilIface,.agg #[.int .i64 0,.int .i64 0,.slice none 0 0],.int .i64 2]) (by simp[results,Tryz.results62,go_sem,q0,q1,q2]) rfl ?_;exact⟨rfl,JA.out.set _ _ _⟩
theorem ah6{w:World}{T N:Nat}{ra:Option Addr}{rc:Nat}{R:List Ru}(hr:aG w w.heap.size (.slice ra R.length rc) R)(hm:aJ T N R=true)(s:Stp)(hs:bK N R s=false):
 Calls Tryz.prog 62 #[.agg #[.int .i64 T,.int .i64 N,.slice ra R.length rc],.agg #[.int .i64 s.op,.int .i64 s.a,.int .i64 s.b,.int .i64 s.c]] w λe w'=>e= .returned (.tuple #[.nilIface,.agg #[.int .i64 0,.int .i64 0,.slice none 0 0],.int .i64 2])/\Below w.heap.size w w':=by
 obtain⟨W0,hW0⟩:=af (((w.alloc (.cells #[.int .i64 T,.int .i64 N,.slice ra R.length rc] 27)).alloc (.cells #[.int .i64 s.op,.int .i64 s.a,.int .i64 s.b,.int .i64 s.c] 86)).alloc (.cells #[.int .i64 0,.int .i64 0,.slice none 0 0] 27));have hT0:=Jz (T:=T) (N:=N) (s:=s) hr;rw[hW0]at hT0;have HT:Hid (dH w T N ra rc R s W0):=hT0;have may:=oD (w:=W0) (T:=T) (N:=N) hT0.all;rw[hm]at may;have g0:=hT0.g0;have g1:=hT0.g1;have g2:=hT0.g2;have yD:Hid (aJ T N R=true):=hm;have HS:Hid (bK N R s=false):=hs;clear hr hm hT0 hs
 go_enter Tryz.func62,Tryz.ntmps62
 go_wp2_with
  (first
   |(go_at_call 18;refine may.mono ?_;rintro e w2 ⟨rfl,hB2⟩
     have iw:=HT.out.next hB2;have v0:=iw.g0;have v1:=iw.g1;have v2:=iw.g2;have v3:=iw.s0;have v4:=iw.s1;have v5:=iw.s2;have v6:=iw.s3;have HT2:Hid (dH w T N ra rc R s w2):=iw;have ch:=Rq iw.all yD.out s;rw[HS.out]at ch
     clear may hB2 iw g0 g1 g2 hW0)
   |(go_at_call 104;refine ch.mono ?_;rintro e w3 ⟨cv,rfl,_,hB3⟩
     have gF:=HT2.out.next hB3;have y0:=gF.y0;have y1:=gF.y1;have y2:=gF.y2;have Ff:=gF.yf 0;have Fg:=gF.yf 1;have Fh:=gF.yf 2;have JA:Hid (dH w T N ra rc R s w3):=gF
     clear ch gF hB3 v0 v1 v2 v3 v4 v5 v6))
 have q0:=yu (v0:= .int .i64 0) (v1:= .int .i64 0) (v2:= .slice none 0 0) y0;have q1:=yw (v0:= .int .i64 0) (v1:= .int .i64 0) (v2:= .slice none 0 0) y1;have q2:=yx (v0:= .int .i64 0) (v1:= .int .i64 0) (v2:= .slice none 0 0) y2;refine aH (v:= .tuple #[.nilIface,.agg #[.int .i64 0,.int .i64 0,.slice none 0 0],.int .i64 2]) (by simp[results,Tryz.results62,go_sem,q0,q1,q2]) rfl ?_;exact⟨rfl,JA.out.set _ _ _⟩
theorem ah7{w:World}{T N:Nat}{ra:Option Addr}{rc:Nat}{R:List Ru}(hr:aG w w.heap.size (.slice ra R.length rc) R)(hm:aJ T N R=true)(s:Stp)(hs:bK N R s=true)(hz:aJ T (nX N s:Nat) (je N R s)=false):
 Calls Tryz.prog 62 #[.agg #[.int .i64 T,.int .i64 N,.slice ra R.length rc],.agg #[.int .i64 s.op,.int .i64 s.a,.int .i64 s.b,.int .i64 s.c]] w λe w'=>e= .returned (.tuple #[.nilIface,.agg #[.int .i64 0,.int .i64 0,.slice none 0 0],.int .i64 1])/\Below w.heap.size w w':=by
 obtain⟨W0,hW0⟩:=af (((w.alloc (.cells #[.int .i64 T,.int .i64 N,.slice ra R.length rc] 27)).alloc (.cells #[.int .i64 s.op,.int .i64 s.a,.int .i64 s.b,.int .i64 s.c] 86)).alloc (.cells #[.int .i64 0,.int .i64 0,.slice none 0 0] 27));have hT0:=Jz (T:=T) (N:=N) (s:=s) hr;rw[hW0]at hT0;have HT:Hid (dH w T N ra rc R s W0):=hT0;have may:=oD (w:=W0) (T:=T) (N:=N) hT0.all;rw[hm]at may;have g0:=hT0.g0;have g1:=hT0.g1;have g2:=hT0.g2;have yD:Hid (aJ T N R=true):=hm;have HS:Hid (bK N R s=true):=hs;have HZ:Hid (aJ T (nX N s:Nat) (je N R s)=false):=hz;obtain⟨M,hM⟩:=af (nX N s);rw[hM]at HZ;have HM:Hid (nX N s=M):=hM;clear hr hm hT0 hs hz hM
 go_enter Tryz.func62,Tryz.ntmps62
 go_wp2_with
  (first
   |(go_at_call 18;refine may.mono ?_;rintro e w2 ⟨rfl,hB2⟩
     have iw:=HT.out.next hB2;have v0:=iw.g0;have v1:=iw.g1;have v2:=iw.g2;have v3:=iw.s0;have v4:=iw.s1;have v5:=iw.s2;have v6:=iw.s3;have HT2:Hid (dH w T N ra rc R s w2):=iw;have ch:=Rq iw.all yD.out s;rw[HS.out]at ch
     clear may hB2 iw g0 g1 g2 hW0)
   |(go_at_call 104;refine ch.mono ?_;rintro e w3 ⟨cv,rfl,hcv,hB3⟩
     have Dh:=HT2.out.next hB3;obtain⟨ty,v,fn,hcf,hme,hfn,out⟩:=aad (by first|exact hcv rfl|exact hcv trivial) Dh.all yD.out HS.out;rw[HM.out]at out;subst hcf;have HT3:Hid (dH w T N ra rc R s w3):=Dh;have JB:=(by first|exact hcv rfl|exact hcv trivial:iU w3 w2.heap.size T N ra rc R s (.iface ty v));have I5:Hid (iU w3 w2.heap.size T N ra rc R s (.iface ty v)):=JB
     clear ch Dh hB3 hcv JB v0 v1 v2 v3 v4 v5 v6)
   |(refine out.mono ?_;rintro e w4 ⟨lv,RL,rfl,JC,hmap,hB4⟩
     have aD:Below w3.heap.size w3 (w4.alloc (.cells #[.int .i64 T,.int .i64 M,lv] 27)):=hB4.alloc hB4.size _;have uD:=JC.below ((ai _ _).alloc (ah _) (.cells #[.int .i64 T,.int .i64 M,lv] 27));have oV:=HT3.out.next aD;have hb5:=heap_alloc_new w4 (.cells #[.int .i64 T,.int .i64 M,lv] 27);have vB:Hid (bA (w4.alloc (.cells #[.int .i64 T,.int .i64 M,lv] 27)) w3.heap.size lv RL/\(RL.map λx=>x.2)=je N R s/\dH w T N ra rc R s (w4.alloc (.cells #[.int .i64 T,.int .i64 M,lv] 27))/\(w4.alloc (.cells #[.int .i64 T,.int .i64 M,lv] 27)).heap[w4.heap.size]?=some (.cells #[.int .i64 T,.int .i64 M,lv] 27 (0,0))/\iU (w4.alloc (.cells #[.int .i64 T,.int .i64 M,lv] 27)) w2.heap.size T N ra rc R s (.iface ty v)/\w3.heap.size<=w4.heap.size):=⟨uD,hmap,oV,hb5,I5.out.next aD,hB4.size⟩;obtain⟨la,lc,hlv⟩:=cO uD.own;subst hlv;have Di:=oD (w:=w4.alloc (.cells #[.int .i64 T,.int .i64 M,.slice la RL.length lc] 27)) (T:=T) (N:=M) uD.rules;rw[hmap,HZ.out]at Di
     clear out JC hmap hB4 aD uD oV hb5 hme hfn)
   |(go_at_call 18;refine Di.mono ?_;rintro e w6 ⟨rfl,bC⟩
     have gF:=vB.out.2.2.1.next bC;have y0:=gF.y0;have y1:=gF.y1;have y2:=gF.y2;have Ff:=gF.yf 0;have Fg:=gF.yf 1;have Fh:=gF.yf 2;have JA:Hid (dH w T N ra rc R s w6):=gF
     clear Di gF bC))
 have q0:=yu (v0:= .int .i64 0) (v1:= .int .i64 0) (v2:= .slice none 0 0) y0;have q1:=yw (v0:= .int .i64 0) (v1:= .int .i64 0) (v2:= .slice none 0 0) y1;have q2:=yx (v0:= .int .i64 0) (v1:= .int .i64 0) (v2:= .slice none 0 0) y2;refine aH (v:= .tuple #[.nilIface,.agg #[.int .i64 0,.int .i64 0,.slice none 0 0],.int .i64 1]) (by simp[results,Tryz.results62,go_sem,q0,q1,q2]) rfl ?_;exact⟨rfl,JA.out.set _ _ _⟩
theorem ah8{w:World}{T N:Nat}{ra:Option Addr}{rc:Nat}{R:List Ru}(hr:aG w w.heap.size (.slice ra R.length rc) R)(hm:aJ T N R=true)(s:Stp)(hs:bK N R s=true)(hz:aJ T (nX N s:Nat) (je N R s)=true):
 Calls Tryz.prog 62 #[.agg #[.int .i64 T,.int .i64 N,.slice ra R.length rc],.agg #[.int .i64 s.op,.int .i64 s.a,.int .i64 s.b,.int .i64 s.c]] w λe w'=> ∃cv lv RL,e= .returned (.tuple #[cv,.agg #[.int .i64 T,.int .i64 (nX N s:Nat),lv],.int .i64 0])/\iU w' w.heap.size T N ra rc R s cv/\bA w' w.heap.size lv RL/\(RL.map λx=>x.2)=je N R s/\Below w.heap.size w w':=by
 obtain⟨W0,hW0⟩:=af (((w.alloc (.cells #[.int .i64 T,.int .i64 N,.slice ra R.length rc] 27)).alloc (.cells #[.int .i64 s.op,.int .i64 s.a,.int .i64 s.b,.int .i64 s.c] 86)).alloc (.cells #[.int .i64 0,.int .i64 0,.slice none 0 0] 27));have hT0:=Jz (T:=T) (N:=N) (s:=s) hr;rw[hW0]at hT0;have HT:Hid (dH w T N ra rc R s W0):=hT0;have may:=oD (w:=W0) (T:=T) (N:=N) hT0.all;rw[hm]at may;have g0:=hT0.g0;have g1:=hT0.g1;have g2:=hT0.g2;have yD:Hid (aJ T N R=true):=hm;have HS:Hid (bK N R s=true):=hs;have HZ:Hid (aJ T (nX N s:Nat) (je N R s)=true):=hz;obtain⟨M,hM⟩:=af (nX N s);rw[hM]at HZ⊢;have HM:Hid (nX N s=M):=hM;clear hr hm hT0 hs hz hM
 go_enter Tryz.func62,Tryz.ntmps62
 go_wp2_with
  (first
   |(go_at_call 18;refine may.mono ?_;rintro e w2 ⟨rfl,hB2⟩
     have iw:=HT.out.next hB2;have v0:=iw.g0;have v1:=iw.g1;have v2:=iw.g2;have v3:=iw.s0;have v4:=iw.s1;have v5:=iw.s2;have v6:=iw.s3;have HT2:Hid (dH w T N ra rc R s w2):=iw;have ch:=Rq iw.all yD.out s;rw[HS.out]at ch
     clear may hB2 iw g0 g1 g2 hW0)
   |(go_at_call 104;refine ch.mono ?_;rintro e w3 ⟨cv,rfl,hcv,hB3⟩
     have Dh:=HT2.out.next hB3;obtain⟨ty,v,fn,hcf,hme,hfn,out⟩:=aad (by first|exact hcv rfl|exact hcv trivial) Dh.all yD.out HS.out;rw[HM.out]at out;subst hcf;have HT3:Hid (dH w T N ra rc R s w3):=Dh;have JB:=(by first|exact hcv rfl|exact hcv trivial:iU w3 w2.heap.size T N ra rc R s (.iface ty v));have I5:Hid (iU w3 w2.heap.size T N ra rc R s (.iface ty v)):=JB
     clear ch Dh hB3 hcv JB v0 v1 v2 v3 v4 v5 v6)
   |(refine out.mono ?_;rintro e w4 ⟨lv,RL,rfl,JC,hmap,hB4⟩
     have aD:Below w3.heap.size w3 (w4.alloc (.cells #[.int .i64 T,.int .i64 M,lv] 27)):=hB4.alloc hB4.size _;have uD:=JC.below ((ai _ _).alloc (ah _) (.cells #[.int .i64 T,.int .i64 M,lv] 27));have oV:=HT3.out.next aD;have hb5:=heap_alloc_new w4 (.cells #[.int .i64 T,.int .i64 M,lv] 27);have vB:Hid (bA (w4.alloc (.cells #[.int .i64 T,.int .i64 M,lv] 27)) w3.heap.size lv RL/\(RL.map λx=>x.2)=je N R s/\dH w T N ra rc R s (w4.alloc (.cells #[.int .i64 T,.int .i64 M,lv] 27))/\(w4.alloc (.cells #[.int .i64 T,.int .i64 M,lv] 27)).heap[w4.heap.size]?=some (.cells #[.int .i64 T,.int .i64 M,lv] 27 (0,0))/\iU (w4.alloc (.cells #[.int .i64 T,.int .i64 M,lv] 27)) w2.heap.size T N ra rc R s (.iface ty v)/\w3.heap.size<=w4.heap.size):=⟨uD,hmap,oV,hb5,I5.out.next aD,hB4.size⟩;obtain⟨la,lc,hlv⟩:=cO uD.own;subst hlv;have Di:=oD (w:=w4.alloc (.cells #[.int .i64 T,.int .i64 M,.slice la RL.length lc] 27)) (T:=T) (N:=M) uD.rules;rw[hmap,HZ.out]at Di
     clear out JC hmap hB4 aD uD oV hb5 hme hfn)
   |(go_at_call 18;refine Di.mono ?_;rintro e w6 ⟨rfl,bC⟩
     have wH:Hid (Below (w4.alloc (.cells #[.int .i64 T,.int .i64 M,.slice la RL.length lc] 27)).heap.size (w4.alloc (.cells #[.int .i64 T,.int .i64 M,.slice la RL.length lc] 27)) w6):=bC
     clear Di bC))
 have jM:=vB.out.2.2.1.next wH.out;have Fw:=vB.out.1.below wH.out;have Fz:=vB.out.2.2.2.2.1.next wH.out;have hlo2:w.heap.size+3<=w2.heap.size:=HT2.out.size;have ajr:=vB.out.2.2.2.2.2;have DW:=(wH.out.block w4.heap.size (by simp)).trans vB.out.2.2.2.1;obtain⟨ob,aae⟩:=af w4.heap.size;rw[aae]at DW⊢;have Es:Hid ((RL.map λx=>x.2)=je N R s):=vB.out.2.1;have hlo:w.heap.size+3<=w3.heap.size:=HT3.out.size;obtain⟨Wd,hWd⟩:=af w6.drew;have hBd:Below w6.heap.size w6 Wd:=by rw[<-hWd];exact(ai _ _).drew
 have rX:=jM.next hBd;have dX:=Fw.below hBd;have Fv:=Fz.next hBd;have M8:=(hBd.block ob (dx.1 DW).1).trans DW;have y0:=rX.y0;have y1:=rX.y1;have y2:=rX.y2;have Ff:=rX.yf 0;have Fg:=rX.yf 1;have Fh:=rX.yf 2;have o0:Wd.cell? ⟨ob,0,none⟩=some (.int .i64 T):=aM M8 rfl;have o1:Wd.cell? ⟨ob,1,none⟩=some (.int .i64 M):=aM M8 rfl;have o2:Wd.cell? ⟨ob,2,none⟩=some (.slice la RL.length lc):=aM M8 rfl;have HF:Hid (dH w T N ra rc R s Wd/\bA Wd w3.heap.size (.slice la RL.length lc) RL/\iU Wd w2.heap.size T N ra rc R s (.iface ty v)):=⟨rX,dX,Fv⟩;have ajs:w.heap.size+3<=ob:=by omega
 clear jM Fw Fz DW aae hBd rX dX Fv M8 vB wH;refine mK [0,1] 3 4 (λwq=>wq.cell? ⟨ob,0,none⟩=some (.int .i64 T)/\wq.cell? ⟨ob,1,none⟩=some (.int .i64 M)/\wq.cell? ⟨ob,2,none⟩=some (.slice la RL.length lc)) (by kernel_rfl) (by kernel_rfl) (by rw[hWd];exact⟨o0,o1,o2⟩) ?_;rw[hWd];clear hWd
 iterate 2
  refine aW.zQ (v:= ?_) rfl (by rfl) ?_ ?_;rotate_left
  ·intro w' hSw
   obtain⟨z0,z1,z2⟩:=hSw
   go_simp
   try with_reducible rfl
  simp only[Act.put,eB,List.set_cons_zero,List.set_cons_succ]
 rw[aW];refine aC.one (i:=2) (by kernel_rfl) ⟨_,rfl,λK hK=> ?_⟩
 go_simp
 refine hK.out _ _ (λ_=>⟨o0,o1,o2⟩) ?_;clear hK;refine aC.one (i:=3) (by kernel_rfl) ⟨_,rfl,λK hK=> ?_⟩
 go_simp
 refine hK.out _ _ (λ_=>⟨?_,?_,?_⟩) ?_
 ·rw[jW (.inl (by simp only;omega)),jW (.inl (by simp only;omega)),jW (.inl (by simp only;omega))];exact o0
 ·rw[jW (.inl (by simp only;omega)),jW (.inl (by simp only;omega)),jW (.inl (by simp only;omega))];exact o1
 ·rw[jW (.inl (by simp only;omega)),jW (.inl (by simp only;omega)),jW (.inl (by simp only;omega))];exact o2
 clear hK;refine aC.last (i:=4) (by kernel_rfl) ⟨_,rfl,λK hK=> ?_⟩
 go_simp
 refine hK.out _ _ (λh=>absurd h (by omega)) (NoPanic.normal ?_);clear hK;have q0:=yu (v0:= .int .i64 T) (v1:= .int .i64 M) (v2:= .slice la RL.length lc) y0;have q1:=yw (v0:= .int .i64 T) (v1:= .int .i64 M) (v2:= .slice la RL.length lc) y1;have q2:=yx (v0:= .int .i64 T) (v1:= .int .i64 M) (v2:= .slice la RL.length lc) y2
 go_wp2_with fail
 refine aH (v:= .tuple #[.iface ty v,.agg #[.int .i64 T,.int .i64 M,.slice la RL.length lc],.int .i64 0]) (by simp[results,Tryz.results62,go_sem,q0,q1,q2]) rfl ?_;refine⟨_,_,RL,rfl,?_,?_,Es.out,HF.out.1.set _ _ _⟩
 ·exact(((HF.out.2.2.set (by simp only;omega) _).set (by simp only;omega) _).set (by simp only;omega) _).mono (by omega)
 ·exact(((HF.out.2.1.uZ (by simp only;omega) _).uZ (by simp only;omega) _).uZ (by simp only;omega) _).mono (by omega)
def nI(T N:Int)(R:List Ru)(s:Stp):Int×Int×Int×List Ru:=
 if aJ T N R&&bK N R s then (if aJ T (nX N.toNat s:Nat) (je N.toNat R s) then (T,(nX N.toNat s:Nat),0,je N.toNat R s) else (0,0,1,[])) else (0,0,2,[])
theorem ah9{T N:Int}{R:List Ru}(hm:aJ T N R=true):∃t n:Nat,T=t/\N=n:=by
 simp only[aJ,DR,bG,bX]at hm;exact⟨T.toNat,N.toNat,by omega,by omega⟩
theorem aia{w:World}{T N:Int}{ra:Option Addr}{rc:Nat}{R:List Ru}(hr:aG w w.heap.size (.slice ra R.length rc) R)(s:Stp):
 Calls Tryz.prog 62 #[.agg #[.int .i64 T,.int .i64 N,.slice ra R.length rc],.agg #[.int .i64 s.op,.int .i64 s.a,.int .i64 s.b,.int .i64 s.c]] w λe w'=> ∃cv lv RL,e= .returned (.tuple #[cv,.agg #[.int .i64 (nI T N R s).1,.int .i64 (nI T N R s).2.1,lv],.int .i64 (nI T N R s).2.2.1])/\bA w' w.heap.size lv RL/\(RL.map λx=>x.2)=(nI T N R s).2.2.2/\Below w.heap.size w w':=by
 cases hm:aJ T N R with
 |false=>
  have e:nI T N R s=(0,0,2,[]):=by unfold nI;rw[hm];rfl
  rw[e];refine(ah5 hr hm s).mono ?_;rintro e w' ⟨rfl,hB⟩;exact⟨_,_,[],rfl,MB _ _,rfl,hB⟩
 |true=>
  obtain⟨t,n,rfl,rfl⟩:=ah9 hm;cases hs:bK n R s with
  |false=>
   have e:nI t n R s=(0,0,2,[]):=by unfold nI;rw[hm,hs];rfl
   rw[e];refine(ah6 hr hm s hs).mono ?_;rintro e w' ⟨rfl,hB⟩;exact⟨_,_,[],rfl,MB _ _,rfl,hB⟩
  |true=>
   cases hz:aJ t (nX n s:Nat) (je n R s) with
   |false=>
    have e:nI t n R s=(0,0,1,[]):=by unfold nI;rw[hm,hs,Int.toNat_natCast,hz];rfl
    rw[e];refine(ah7 hr hm s hs hz).mono ?_;rintro e w' ⟨rfl,hB⟩;exact⟨_,_,[],rfl,MB _ _,rfl,hB⟩
   |true=>
    have e:nI t n R s=((t:Int),((nX n s:Nat):Int),0,je n R s):=by unfold nI;rw[hm,hs,Int.toNat_natCast,hz];rfl
    rw[e];refine(ah8 hr hm s hs hz).mono ?_;rintro e w' ⟨cv,lv,RL,rfl,_,h2,h3,hB⟩;exact⟨cv,lv,RL,rfl,h2,h3,hB⟩
theorem aaf{w:World}{T N:Int}{ra:Option Addr}{rc:Nat}{R:List Ru}(hr:aG w w.heap.size (.slice ra R.length rc) R)(s:Stp):
 Calls Tryz.prog 27 #[.agg #[.int .i64 T,.int .i64 N,.slice ra R.length rc],.agg #[.int .i64 s.op,.int .i64 s.a,.int .i64 s.b,.int .i64 s.c]] w λe w'=> ∃lv RL,e= .returned (.tuple #[.agg #[.int .i64 (nI T N R s).1,.int .i64 (nI T N R s).2.1,lv],.int .i64 (nI T N R s).2.2.1])/\bA w' w.heap.size lv RL/\(RL.map λx=>x.2)=(nI T N R s).2.2.2/\Below w.heap.size w w':=by
 obtain⟨W0,hW0⟩:=af (((w.alloc (.cells #[.int .i64 T,.int .i64 N,.slice ra R.length rc] 27)).alloc (.cells #[.int .i64 s.op,.int .i64 s.a,.int .i64 s.b,.int .i64 s.c] 86)).alloc (.cells #[.int .i64 0,.int .i64 0,.slice none 0 0] 27));have hT0:=Jz (T:=T) (N:=N) (s:=s) hr;rw[hW0]at hT0;have HT:Hid (dH w T N ra rc R s W0):=hT0;have g0:=hT0.g0;have g1:=hT0.g1;have g2:=hT0.g2;have s0:=hT0.s0;have s1:=hT0.s1;have s2:=hT0.s2;have s3:=hT0.s3;have tk:=aia (T:=T) (N:=N) hT0.all s;obtain⟨⟨V,M,E,RR⟩,hV⟩:=af (nI T N R s);rw[hV]at tk⊢;simp only at tk⊢;clear hr hT0 hV
 go_enter Tryz.func27,Tryz.ntmps27
 go_wp2_with
  (go_at_call 62;refine tk.mono ?_;rintro e w2 ⟨cv,lv,RL,rfl,hR2,hmap,hB2⟩
   obtain⟨la,lc,hlv⟩:=cO hR2.own;subst hlv;have hB3:Below W0.heap.size W0 (w2.alloc (.cells #[.int .i64 V,.int .i64 M,.slice la RL.length lc] 27)):=hB2.alloc hB2.size _;have gF:=HT.out.next hB3;have y0:=gF.y0;have y1:=gF.y1;have y2:=gF.y2;have Ff:=gF.yf 0;have Fg:=gF.yf 1;have Fh:=gF.yf 2;have HF:Hid (dH w T N ra rc R s (w2.alloc (.cells #[.int .i64 V,.int .i64 M,.slice la RL.length lc] 27))/\bA (w2.alloc (.cells #[.int .i64 V,.int .i64 M,.slice la RL.length lc] 27)) W0.heap.size (.slice la RL.length lc) RL/\(RL.map λx=>x.2)=RR):=⟨gF,hR2.below ((ai _ _).alloc (ah _) _),hmap⟩
   clear tk hR2 hmap hB2 hB3 gF g0 g1 g2 s0 s1 s2 s3 hW0)
 have q0:=yu (v0:= .int .i64 V) (v1:= .int .i64 M) (v2:= .slice la RL.length lc) y0;have q1:=yw (v0:= .int .i64 V) (v1:= .int .i64 M) (v2:= .slice la RL.length lc) y1;have q2:=yx (v0:= .int .i64 V) (v1:= .int .i64 M) (v2:= .slice la RL.length lc) y2;refine aH (v:= .tuple #[.agg #[.int .i64 V,.int .i64 M,.slice la RL.length lc],.int .i64 E]) (by simp[results,Tryz.results27,go_sem,q0,q1,q2]) rfl ?_;have hlo:=HT.out.size;exact⟨_,RL,rfl,(((HF.out.2.1.uZ (by simp only;omega) _).uZ (by simp only;omega) _).uZ (by simp only;omega) _).mono (by omega),HF.out.2.2,HF.out.1.set _ _ _⟩
end Go.Proofs.YthbifaoaiggooaaGreatDoor
