import Derived.Test.YthbifaoaiggooaaGreatDoorq19
set_option maxHeartbeats 12800000
set_option maxRecDepth 100000
namespace Go.Proofs.YthbifaoaiggooaaGreatDoor
open Go.RowKit
theorem ahR{w:World}{T:Int}{N ka bn cn m:Nat}{ra:Option Addr}{rc:Nat}{op fr fo:Int}{R:List Ru}{L:Int}{l:List Sy}(hr:aG w w.heap.size (.slice ra R.length rc) R)(hl:R.length<=1000)(hl2:∀q,q<R.length->(R.getD q (0,[])).2.length<=1000)(hN:N<=1000)(hk:ka<R.length)(hx:R.getD ka (0,[])=(L,l))(hbc:bn<cn)(hcl:l.length=cn+m):
 Calls Tryz.prog 237 #[.agg #[.int .i64 T,.int .i64 N,.slice ra R.length rc,.int .i64 op,.int .i64 ka,.int .i64 bn,.int .i64 cn,.int .i64 fr,.int .i64 fo]] w λe w'=> ∃lv RL,e= .returned (.agg #[.int .i64 T,.int .i64 (N+1),lv])/\bA w' w.heap.size lv RL/\(RL.map λx=>x.2)=R.set ka (L,l.take bn++(false,(N:Int))::l.drop cn)++[((N:Int),(l.take cn).drop bn)]/\Below w.heap.size w w':=by
 obtain⟨cs,hcs⟩:∃cs:Array Value,#[.int .i64 T,.int .i64 N,.slice ra R.length rc,.int .i64 op,.int .i64 ka,.int .i64 bn,.int .i64 cn,.int .i64 fr,.int .i64 fo]=cs:=⟨_,rfl⟩;have hC0:dm w cs 245 ra rc R ((w.alloc (.cells cs 245)).alloc (.cells #[.int .i64 0,.int .i64 0,.slice none 0 0] 27)):=ME hr;rw[<-hcs]at hC0;obtain⟨W0,hW0⟩:=af ((w.alloc (.cells #[.int .i64 T,.int .i64 N,.slice ra R.length rc,.int .i64 op,.int .i64 ka,.int .i64 bn,.int .i64 cn,.int .i64 fr,.int .i64 fo] 245)).alloc (.cells #[.int .i64 0,.int .i64 0,.slice none 0 0] 27));rw[hW0,hcs]at hC0;have xX:Hid (#[.int .i64 T,.int .i64 N,.slice ra R.length rc,.int .i64 op,.int .i64 ka,.int .i64 bn,.int .i64 cn,.int .i64 fr,.int .i64 fo]=cs):=hcs
 have dM:Hid (∀wq,dm w cs 245 ra rc R wq->wq.cell? ⟨w.heap.size,0,none⟩=some (.int .i64 T)/\wq.cell? ⟨w.heap.size,1,none⟩=some (.int .i64 N)/\wq.cell? ⟨w.heap.size,2,none⟩=some (.slice ra R.length rc)/\wq.cell? ⟨w.heap.size,3,none⟩=some (.int .i64 op)/\wq.cell? ⟨w.heap.size,4,none⟩=some (.int .i64 ka)/\wq.cell? ⟨w.heap.size,5,none⟩=some (.int .i64 bn)/\wq.cell? ⟨w.heap.size,6,none⟩=some (.int .i64 cn)):=λwq hq=>by
  refine⟨hq.cell ?_,hq.cell ?_,hq.cell ?_,hq.cell ?_,hq.cell ?_,hq.cell ?_,hq.cell ?_⟩<;>(rw[<-xX.out];rfl)
 obtain⟨x0,x1,x2,x3,x4,x5,x6⟩:=dM.out W0 hC0;obtain⟨b0,o0,uM,qa,qc,hv,_,k1,k2,hsy⟩:=hC0.rules.mR hk;cases hv;have nE:=hl2 ka hk;rw[hx]at k1 k2 hsy nE;simp only at k1 k2 hsy nE;have hqc:l.length<=qc:=by obtain⟨_,_,hv,hle⟩:=hsy.1;cases hv;exact hle
 obtain⟨ad,rfl⟩:=hsy.MG (by omega);rw[hcl]at k2 nE hqc
 have l7:Hid (∀wq,dm w cs 245 (some ⟨b0,o0,none⟩) rc R wq->Below W0.heap.size W0 wq->dh wq (.slice (some ad) (cn+m) qc) l):=λwq _ hB=>by
  have:=hsy.same (ko hB);rw[hcl]at this;exact this
 have mq:Hid (dm w cs 245 (some ⟨b0,o0,none⟩) rc R W0):=hC0;have cop:=MC (w:=W0) (T:=T) (N:=N) (op:=op) (a:=ka) (b:=bn) (c:=cn) (hC0.rules.mono (aZ (by omega) hC0.size)) hl hl2;have HX:Hid (R.getD ka (0,[])=(L,l)/\l.length=cn+m):=⟨hx,hcl⟩;have i0:(0:Int)<=(ka:Int):=aF _;have i1:(ka:Int)<(R.length:Int):=by omega
 clear hr hl2 hx hcl hC0 hcs hsy
 go_enter Tryz.func237,Tryz.ntmps237
 go_upto_region 3 with(go_at_call 231;refine cop.mono ?_;rintro e wq ⟨lv,RL,rfl,hO,hmap,pV⟩;clear cop)
 have hlen:RL.length=R.length:=by rw[<-hmap,cK]
 obtain⟨g,cap,hlv,hg0,_⟩:=hO.ul.form (by omega);subst hlv;obtain⟨Wd,hWd⟩:=af wq.drew;have hBd:Below W0.heap.size W0 Wd:=by rw[<-hWd];exact pV.drew
 have Fv:dm w cs 245 (some ⟨b0,o0,none⟩) rc R Wd:=mq.out.next hBd
 have dX:bA Wd (w.heap.size+2) (.slice (some ⟨g,0,none⟩) RL.length cap) RL:=by
  have:=(hO.Jf.mono mq.out.size).below (w':=Wd) (by rw[<-hWd];exact(ai _ _).drew);exact this
 have HM:Hid ((RL.map λx=>x.2)=R/\RL.length=R.length):=⟨hmap,hlen⟩;have fM:Hid (bA Wd (w.heap.size+2) (.slice (some ⟨g,0,none⟩) RL.length cap) RL):=dX;have fZ:Hid (dm w cs 245 (some ⟨b0,o0,none⟩) rc R Wd):=Fv;have dz:Hid (Below W0.heap.size W0 Wd):=hBd;rw[hlen];have hup:=λw=>Jg (ad:=ad) (f:=bn) (sl:=cn+m) (lc:=qc) (fi:=(bn:Int)) rfl (by omega) w;obtain⟨A,hA,hA'⟩:=QW (la:=some ad) (f:=cn) (n:=m) (sl:=cn+m) (lc:=qc) (fi:=(cn:Int)) rfl rfl;have CQ:Hid (qc≠cn->A=(some ad).map (·.add (cn*2))):=hA';have S0:=dM.out Wd Fv;clear hO hmap hlen pV Fv dX hBd hA' k1 k2 x0 x1 x2 x3 x4 x5 x6 hW0;refine mK [0,1,2,3,4,5,6,7,8,9,10,11,12,15,16,17,18,19,20] 7 25 (λwq=>wq.cell? ⟨w.heap.size,0,none⟩=some (.int .i64 T)/\wq.cell? ⟨w.heap.size,1,none⟩=some (.int .i64 N)/\wq.cell? ⟨w.heap.size,2,none⟩=some (.slice (some ⟨b0,o0,none⟩) R.length rc)/\wq.cell? ⟨w.heap.size,3,none⟩=some (.int .i64 op)/\wq.cell? ⟨w.heap.size,4,none⟩=some (.int .i64 ka)/\wq.cell? ⟨w.heap.size,5,none⟩=some (.int .i64 bn)/\wq.cell? ⟨w.heap.size,6,none⟩=some (.int .i64 cn)) (by kernel_rfl) (by kernel_rfl) (by rw[hWd];exact S0) ?_;rw[hWd];clear hWd S0
 iterate 19
  refine aW.zQ (v:= ?_) rfl (by rfl) ?_ ?_;rotate_left
  ·intro w' hSw
   obtain⟨z0,z1,z2,z3,z4,z5,z6⟩:=hSw
   go_simp
   try with_reducible rfl
  simp only[Act.put,eB,List.set_cons_zero,List.set_cons_succ]
 rw[aW];have mo:=CV (w:=Wd) (T:=T) (N:=N) (ra:=some ⟨b0,o0,none⟩) (rn:=R.length) (rc:=rc) (op:=op) (a:=ka) (b:=bn) (c:=cn);refine aC.one (i:=13) (by kernel_rfl) ⟨_,rfl,λK hK=> ?_⟩
 go_simp
 refine mo.mono ?_;rintro e w3 ⟨rfl,hB3⟩;dsimp only;have ZW:=fZ.out.next hB3;refine hK.out _ _ (λ_=>dM.out w3 ZW) ?_;clear hK mo;have hB4:Below Wd.heap.size Wd (w3.alloc (.cells #[.bool false,.int .i64 N] 121)):=hB3.alloc hB3.size _;refine aC.one (i:=14) (by kernel_rfl) ⟨_,rfl,λK hK=> ?_⟩
 go_simp
 refine hK.out _ _ (λ_=>dM.out _ (fZ.out.next hB4)) ?_;clear hK;obtain⟨w4,hw4⟩:=af (w3.alloc (.cells #[.bool false,.int .i64 N] 121));have hsr:dh w4 (.slice (some ⟨w3.heap.size,0,none⟩) 1 1) [(false,(N:Int))]:=by rw[<-hw4];exact agV
 rw[hw4]at hB4⊢;clear hw4;have aD:Below w4.heap.size w4 (w4.alloc (.cells #[.slice (some ad) bn qc,.slice (some ⟨w3.heap.size,0,none⟩) 1 1,.slice A m (qc-cn)] 94)):=(ai _ _).alloc (ah _) _;refine aC.one (i:=21) (by kernel_rfl) ⟨_,rfl,λK hK=> ?_⟩
 go_simp
 have rR:Below Wd.heap.size Wd (w4.alloc (.cells #[.slice (some ad) bn qc,.slice (some ⟨w3.heap.size,0,none⟩) 1 1,.slice A m (qc-cn)] 94)):=hB4.trans (aD.mono hB4.size);refine hK.out _ _ (λ_=>dM.out _ (fZ.out.next rR)) ?_;clear hK;obtain⟨w5,lg⟩:=af (w4.alloc (.cells #[.slice (some ad) bn qc,.slice (some ⟨w3.heap.size,0,none⟩) 1 1,.slice A m (qc-cn)] 94));have p0:w5.cell? ⟨w4.heap.size,0,none⟩=some (.slice (some ad) bn qc):=by rw[<-lg];exact aM (heap_alloc_new _ _) rfl
 have p1:w5.cell? ⟨w4.heap.size,1,none⟩=some (.slice (some ⟨w3.heap.size,0,none⟩) 1 1):=by rw[<-lg];exact aM (heap_alloc_new _ _) rfl
 have p2:w5.cell? ⟨w4.heap.size,2,none⟩=some (.slice A m (qc-cn)):=by rw[<-lg];exact aM (heap_alloc_new _ _) rfl
 rw[lg]at aD rR⊢;clear lg
 have hs5:dh w5 (.slice (some ad) l.length qc) l:=by
  rw[HX.out.2];exact l7.out w5 (fZ.out.next rR) (dz.out.trans (rR.mono dz.out.size))
 have hlt:(l.take bn).length=bn:=by rw[fq,HX.out.2];omega
 have hld:(l.drop cn).length=m:=by rw[pE,HX.out.2];omega
 have cc:=Y9 p0 p1 p2 (hs5.Fj (f:=bn) (by rw[HX.out.2];omega)) (hsr.same (ko aD)) (hs5.MF HX.out.2 CQ.out) (by rw[hlt,hld];simp only[List.length_singleton];omega);rw[hlt,hld]at cc;simp only[List.length_singleton]at cc;refine aC.one (i:=22) (by kernel_rfl) ⟨_,rfl,λK hK=> ?_⟩
 go_simp
 refine cc.mono ?_;rintro e w6 ⟨a6,d6,rfl,hown6,bC⟩;dsimp only;have iO:Below Wd.heap.size Wd w6:=rR.trans (bC.mono rR.size);refine hK.out _ _ (λ_=>dM.out _ (fZ.out.next iO)) ?_;clear hK cc;refine aC.one (i:=23) (by kernel_rfl) ⟨_,rfl,λK hK=> ?_⟩
 go_simp
 refine hK.out _ _ (λ_=>dM.out _ (fZ.out.next iO)) ?_;clear hK;refine aC.one (i:=24) (by kernel_rfl) ⟨_,rfl,λK hK=> ?_⟩
 go_simp
 refine hK.out _ _ (λ_=>dM.out _ (fZ.out.next iO)) ?_;clear hK;have Fw:=fM.out.below iO;obtain⟨u,hu⟩:∃u,(dY RL)[ka*2+1]?=some u:=⟨_,pq (by rw[Fa,HM.out.2];omega)⟩;have c6:w6.cell? ⟨g,ka*2+1,none⟩=some u:=(Fw.own.cellAt (ka*2+1) (by rw[HM.out.2];omega)).trans hu;have f6:w6.frozen? ⟨g,ka*2+1,none⟩=false:=Fw.own.frozenAt (ka*2+1);have ahS:(l.take bn++[(false,(N:Int))]++l.drop cn).length=bn+1+m:=by rw[aS,aS,hlt,hld];rfl
 have hkr:ka<RL.length:=by rw[HM.out.2];exact hk
 have sP:=fM.out.agT (w5:=w6) (k:=ka) (v:= .slice a6 (bn+1+m) d6) (l:=l.take bn++[(false,(N:Int))]++l.drop cn) iO hkr (by rw[ahS];exact lq hown6 rR.size);have M4:dm w cs 245 (some ⟨b0,o0,none⟩) rc R (w6.setCell ⟨g,ka*2+1,none⟩ (.slice a6 (bn+1+m) d6)):=fZ.out.later ((iO.mono fZ.out.size).setCell (by simp only;have:=fZ.out.size;have:=mq.out.size;omega) _);refine aC.last (i:=25) (by kernel_rfl) ⟨_,rfl,λK hK=> ?_⟩
 go_simp
 refine hK.out _ _ (λh=>absurd h (by omega)) (NoPanic.normal ?_);clear hK;obtain⟨RM,M5⟩:=af (RL.set ka (.slice a6 (bn+1+m) d6,(RL[ka].2.1,l.take bn++[(false,(N:Int))]++l.drop cn)))
 have ZX:(RM.map λx=>x.2)=R.set ka (L,l.take bn++(false,(N:Int))::l.drop cn):=by
  have e1:RL[ka].2=(L,l):=by
   have h1:(RL.map λx=>x.2).getD ka (0,[])=(L,l):=by rw[HM.out.1];exact HX.out.1
   simpa [List.getD,hkr] using h1
  rw[<-M5,Dv,HM.out.1,e1];simp
 have hLen:RM.length=R.length:=by rw[<-M5,qU];exact HM.out.2
 rw[M5,HM.out.2.trans hLen.symm]at sP;have wH:Hid (Below W0.heap.size W0 w6):=dz.out.trans (iO.mono dz.out.size);have hgs:w.heap.size+2<=g:=aZ mq.out.size hg0;obtain⟨w7,hw7⟩:=af (w6.setCell ⟨g,ka*2+1,none⟩ (.slice a6 (bn+1+m) d6))
 have HS7:Hid (∀wq,Below w7.heap.size w7 wq->dh wq (.slice (some ad) l.length qc) l):=λwq hB=>by
  have h0:=l7.out W0 mq.out (ai _ _);rw[HX.out.2];refine dh.same (w:=w7) ?_ (ko hB);rw[<-hw7];have h6:=hs5.same (ko bC);rw[HX.out.2]at h6;refine⟨h6.1,λj hj=> ?_⟩;obtain⟨b,o,c,h1,h2,h3⟩:=h0.2 j hj;obtain⟨b',o',c',h1',h2',h3'⟩:=h6.2 j hj;rw[h1]at h1';cases h1';have hbl:=aQ _ _ h2;refine⟨b,o,c,h1,?_,?_⟩
  ·rw[jW (.inl (by simp only at hbl⊢;omega))];exact h2'
  ·rw[jW (.inl (by simp only at hbl⊢;omega))];exact h3'
 rw[hw7]at sP M4⊢;clear hw7 c6 f6 bC iO aD rR hB4 hB3 hs5 hsr hown6 p0 p1 p2 hu fM fZ dz ZW Fw M5 hkr;have ZY:Hid ((RM.map λx=>x.2)=R.set ka (L,l.take bn++(false,(N:Int))::l.drop cn)):=ZX;clear ZX HM
 go_upto_region 4 with fail
 go_cut [4] from 44 to 72 (λs4 wx=> ∃lv RK,lv=s4/\bA wx (w.heap.size+2) lv RK/\(RK.map λx=>x.2)=R.set ka (L,l.take bn++(false,(N:Int))::l.drop cn)++[((N:Int),(l.take cn).drop bn)]/\dm w cs 245 (some ⟨b0,o0,none⟩) rc R wx)
 case first=>
  obtain⟨Wd,hWd⟩:=af w7.drew;have iM:Below w7.heap.size w7 Wd:=by rw[<-hWd];exact(ai _ _).drew
  have fZ:Hid (dm w cs 245 (some ⟨b0,o0,none⟩) rc R Wd):=M4.next iM;have fM:Hid (bA Wd (w.heap.size+2) (.slice (some ⟨g,0,none⟩) RM.length cap) RM):=sP.below iM;have HLen:Hid (RM.length=R.length):=hLen;obtain⟨nn,hnn⟩:∃nn,cn=bn+nn:=⟨cn-bn,by omega⟩;have hlc:(l.take cn).length=cn:=by rw[fq,HX.out.2];omega
  have Fx:Hid (((l.take cn).drop bn).length=nn):=by show _=_;rw[pE,hlc];omega
  obtain⟨A2,hA2,Jr⟩:=agR (ad:=ad) (f:=bn) (n:=nn) (g:=cn) (sl:=cn+m) (lc:=qc) (fi:=(bn:Int)) (gi:=(cn:Int)) rfl rfl hnn (by omega)
  have Z0:Hid (∀wq,Below Wd.heap.size Wd wq->dh wq (.slice A2 nn (qc-bn)) ((l.take cn).drop bn)):=λwq hB=>by
   have h1:=(HS7.out wq (iM.trans (hB.mono iM.size))).Fj (f:=cn) (by rw[HX.out.2];omega);have h2:dh wq (.slice (some ad) (l.take cn).length qc) (l.take cn):=by rw[hlc];exact h1
   exact h2.MF (by rw[hlc];exact hnn) (λh=>by rw[Jr h];rfl)
  have S0:=dM.out Wd fZ.out;have Z4:Hid (cn=bn+nn):=hnn;have ahs:R.length+1<=1001:=by omega
  clear iM M4 sP hLen Jr hnn hlc;refine mK [0,1,2,5,6,7,8,9,10,11,12,13,14] 8 20 (λwq=>wq.cell? ⟨w.heap.size,0,none⟩=some (.int .i64 T)/\wq.cell? ⟨w.heap.size,1,none⟩=some (.int .i64 N)/\wq.cell? ⟨w.heap.size,2,none⟩=some (.slice (some ⟨b0,o0,none⟩) R.length rc)/\wq.cell? ⟨w.heap.size,3,none⟩=some (.int .i64 op)/\wq.cell? ⟨w.heap.size,4,none⟩=some (.int .i64 ka)/\wq.cell? ⟨w.heap.size,5,none⟩=some (.int .i64 bn)/\wq.cell? ⟨w.heap.size,6,none⟩=some (.int .i64 cn)) (by kernel_rfl) (by kernel_rfl) (by rw[hWd];exact S0) ?_;rw[hWd];clear hWd S0
  iterate 13
   refine aW.zQ (v:= ?_) rfl (by rfl) ?_ ?_;rotate_left
   ·intro w' hSw
    obtain⟨z0,z1,z2,z3,z4,z5,z6⟩:=hSw
    go_simp
    try with_reducible rfl
   simp only[Act.put,eB,List.set_cons_zero,List.set_cons_succ]
  rw[aW];refine aC.two (i:=3) (i':=15) (by kernel_rfl) ⟨_,rfl,λK hK=> ?_⟩ ⟨_,rfl,λK hK=> ?_⟩
  ·have mo:=CV (w:=Wd) (T:=T) (N:=N) (ra:=some ⟨b0,o0,none⟩) (rn:=R.length) (rc:=rc) (op:=op) (a:=ka) (b:=bn) (c:=cn)
   go_simp
   refine mo.mono ?_;rintro e w3 ⟨rfl,hB3⟩;dsimp only;refine hK.out _ _ (λ_=>dM.out w3 (fZ.out.next hB3)) ?_;clear hK mo;refine aC.read (i:=4) (v:= .int .i64 N) rfl (by kernel_rfl) (by rfl) (λw' _=>by unfold execOp;go_simp;unfold Instr.field asAgg;go_simp) (dM.out w3 (fZ.out.next hB3)) ?_;simp only[Act.put,eB,List.set_cons_zero,List.set_cons_succ];have dQ:Below Wd.heap.size Wd (w3.alloc (.cells #[.slice A2 nn (qc-bn)] 94)):=hB3.alloc hB3.size _;refine aC.one (i:=15) (by kernel_rfl) ⟨_,rfl,λK hK=> ?_⟩
   go_simp
   refine hK.out _ _ (λ_=>dM.out _ (fZ.out.next dQ)) ?_;clear hK;have uz:(w3.alloc (.cells #[.slice A2 nn (qc-bn)] 94)).cell? ⟨w3.heap.size,0,none⟩=some (.slice A2 nn (qc-bn)):=aM (heap_alloc_new _ _) rfl;obtain⟨pz,hpz⟩:=af w3.heap.size;obtain⟨wz,hwz⟩:=af (w3.alloc (.cells #[.slice A2 nn (qc-bn)] 94));rw[hwz]at dQ uz⊢;rw[hpz]at uz⊢;clear hwz hpz hB3;have cc:=Za (w:=wz) (pb:=pz) (va:= .slice A2 nn (qc-bn)) (la:=(l.take cn).drop bn) uz (Z0.out wz dQ) (by rw[Fx.out];have:=Z4.out;omega);rw[Fx.out]at cc;refine aC.one (i:=16) (by kernel_rfl) ⟨_,rfl,λK hK=> ?_⟩
   go_simp
   refine cc.mono ?_;rintro e wa ⟨aa,da,rfl,Rw,hBa⟩;dsimp only;have zT:Below Wd.heap.size Wd wa:=dQ.trans (hBa.mono dQ.size);refine hK.out _ _ (λ_=>dM.out _ (fZ.out.next zT)) ?_;clear hK cc;refine aC.one (i:=17) (by kernel_rfl) ⟨_,rfl,λK hK=> ?_⟩
   go_simp
   refine hK.out _ _ (λ_=>dM.out _ (fZ.out.next zT)) ?_;clear hK;have hBb:Below Wd.heap.size Wd (wa.alloc (.cells #[.int .i64 N,.slice aa nn da] 96)):=zT.alloc zT.size _;have hrow:gT (wa.alloc (.cells #[.int .i64 N,.slice aa nn da] 96)) (.slice (some ⟨wa.heap.size,0,none⟩) 1 1) 1 [.int .i64 N,.slice aa nn da]:=Fe;have Db:=own_below fM.out.own hBb λg hg=>(fM.out.own.lt g hg).2;rw[HLen.out]at Db;have hsb:w.heap.size+2<=(wa.alloc (.cells #[.int .i64 N,.slice aa nn da] 96)).heap.size:=aZ fZ.out.size hBb.size;refine aC.one (i:=18) (by kernel_rfl) ⟨_,rfl,λK hK=> ?_⟩
   go_simp
   refine hK.out _ _ (λ_=>dM.out _ (fZ.out.next hBb)) ?_;clear hK;refine aC.one (i:=19) (by kernel_rfl) ⟨_,rfl,λK hK=> ?_⟩;refine YW rfl _ _ rfl rfl rfl rfl Db hrow hsb (by omega) ?_;intro a' d' wc hown6 hgrow hat;have mX:Below (w.heap.size+2) Wd wc:=(hBb.mono fZ.out.size).grown hgrow hsb λk hk=>(Db.lt k hk).1;have Js:=fZ.out.later mX;refine hK.out _ _ (λ_=>dM.out _ Js) ?_;clear hK
   have BI:bA wc (w.heap.size+2) (.slice a' (R.length+1) d') (RM++[(.slice aa nn da,((N:Int),(l.take cn).drop bn))]):=by
    refine fM.out.MH (w5:=wa.alloc (.cells #[.int .i64 N,.slice aa nn da] 96)) fZ.out.size hBb ?_ hgrow ?_ ?_
    ·rw[Fx.out]
     exact lq (Rw.alloc _) dQ.size
    ·rw[Fb,HLen.out]
     exact hown6
    ·intro g hg
     exact(hat g hg).imp id λe=>by omega
   refine aC.last (i:=20) (by kernel_rfl) ⟨_,rfl,λK hK=> ?_⟩
   go_simp
   refine hK.out _ _ (λh=>absurd h (by omega)) (NoPanic.normal ?_);clear hK
   go_wp2_with fail
   go_meet
   case rel=>exact⟨_,_,rfl,BI,by rw[fD,ZY.out];rfl,Js⟩
  ·have wI:Below Wd.heap.size Wd (Wd.alloc (.cells #[.slice A2 nn (qc-bn)] 94)):=(ai _ _).alloc (ah _) _
   go_simp
   refine hK.out _ _ (λ_=>dM.out _ (fZ.out.next wI)) ?_;clear hK;have wJ:(Wd.alloc (.cells #[.slice A2 nn (qc-bn)] 94)).cell? ⟨Wd.heap.size,0,none⟩=some (.slice A2 nn (qc-bn)):=aM (heap_alloc_new _ _) rfl;obtain⟨pz,hpz⟩:=af Wd.heap.size;obtain⟨wy,Jt⟩:=af (Wd.alloc (.cells #[.slice A2 nn (qc-bn)] 94));rw[Jt]at wI wJ⊢;rw[hpz]at wJ⊢;clear Jt;have mo:=CV (w:=wy) (T:=T) (N:=N) (ra:=some ⟨b0,o0,none⟩) (rn:=R.length) (rc:=rc) (op:=op) (a:=ka) (b:=bn) (c:=cn);refine aC.one (i:=3) (by kernel_rfl) ⟨_,rfl,λK hK=> ?_⟩;clear hpz
   go_simp
   refine mo.mono ?_;rintro e wz ⟨rfl,hB3⟩;dsimp only;have dQ:Below Wd.heap.size Wd wz:=wI.trans (hB3.mono wI.size);have uz:=(hB3.cell (aQ _ _ wJ)).trans wJ;refine hK.out _ _ (λ_=>dM.out wz (fZ.out.next dQ)) ?_;clear hK mo;refine aC.read (i:=4) (v:= .int .i64 N) rfl (by kernel_rfl) (by rfl) (λw' _=>by unfold execOp;go_simp;unfold Instr.field asAgg;go_simp) (dM.out wz (fZ.out.next dQ)) ?_;simp only[Act.put,eB,List.set_cons_zero,List.set_cons_succ];clear hB3 wI wJ;have cc:=Za (w:=wz) (pb:=pz) (va:= .slice A2 nn (qc-bn)) (la:=(l.take cn).drop bn) uz (Z0.out wz dQ) (by rw[Fx.out];have:=Z4.out;omega);rw[Fx.out]at cc;refine aC.one (i:=16) (by kernel_rfl) ⟨_,rfl,λK hK=> ?_⟩
   go_simp
   refine cc.mono ?_;rintro e wa ⟨aa,da,rfl,Rw,hBa⟩;dsimp only;have zT:Below Wd.heap.size Wd wa:=dQ.trans (hBa.mono dQ.size);refine hK.out _ _ (λ_=>dM.out _ (fZ.out.next zT)) ?_;clear hK cc;refine aC.one (i:=17) (by kernel_rfl) ⟨_,rfl,λK hK=> ?_⟩
   go_simp
   refine hK.out _ _ (λ_=>dM.out _ (fZ.out.next zT)) ?_;clear hK;have hBb:Below Wd.heap.size Wd (wa.alloc (.cells #[.int .i64 N,.slice aa nn da] 96)):=zT.alloc zT.size _;have hrow:gT (wa.alloc (.cells #[.int .i64 N,.slice aa nn da] 96)) (.slice (some ⟨wa.heap.size,0,none⟩) 1 1) 1 [.int .i64 N,.slice aa nn da]:=Fe;have Db:=own_below fM.out.own hBb λg hg=>(fM.out.own.lt g hg).2;rw[HLen.out]at Db;have hsb:w.heap.size+2<=(wa.alloc (.cells #[.int .i64 N,.slice aa nn da] 96)).heap.size:=aZ fZ.out.size hBb.size;refine aC.one (i:=18) (by kernel_rfl) ⟨_,rfl,λK hK=> ?_⟩
   go_simp
   refine hK.out _ _ (λ_=>dM.out _ (fZ.out.next hBb)) ?_;clear hK;refine aC.one (i:=19) (by kernel_rfl) ⟨_,rfl,λK hK=> ?_⟩;refine YW rfl _ _ rfl rfl rfl rfl Db hrow hsb (by omega) ?_;intro a' d' wc hown6 hgrow hat;have mX:Below (w.heap.size+2) Wd wc:=(hBb.mono fZ.out.size).grown hgrow hsb λk hk=>(Db.lt k hk).1;have Js:=fZ.out.later mX;refine hK.out _ _ (λ_=>dM.out _ Js) ?_;clear hK
   have BI:bA wc (w.heap.size+2) (.slice a' (R.length+1) d') (RM++[(.slice aa nn da,((N:Int),(l.take cn).drop bn))]):=by
    refine fM.out.MH (w5:=wa.alloc (.cells #[.int .i64 N,.slice aa nn da] 96)) fZ.out.size hBb ?_ hgrow ?_ ?_
    ·rw[Fx.out]
     exact lq (Rw.alloc _) dQ.size
    ·rw[Fb,HLen.out]
     exact hown6
    ·intro g hg
     exact(hat g hg).imp id λe=>by omega
   refine aC.last (i:=20) (by kernel_rfl) ⟨_,rfl,λK hK=> ?_⟩
   go_simp
   refine hK.out _ _ (λh=>absurd h (by omega)) (NoPanic.normal ?_);clear hK
   go_wp2_with fail
   go_meet
   case rel=>exact⟨_,_,rfl,BI,by rw[fD,ZY.out];rfl,Js⟩
 case rest=>
  obtain⟨lv,RK,rfl,Ai,Z5,Rx⟩:=hcut;clear sP M4;obtain⟨la,lc,hlv⟩:=cO Ai.own;subst hlv;obtain⟨x0,x1,x2,x3,x4,x5,x6⟩:=dM.out wc Rx;have HC8:Hid (dm w cs 245 (some ⟨b0,o0,none⟩) rc R wc):=Rx;have qW:Hid (bA wc (w.heap.size+2) (.slice la RK.length lc) RK):=Ai;have Pp:Hid ((RK.map λx=>x.2)=R.set ka (L,l.take bn++(false,(N:Int))::l.drop cn)++[((N:Int),(l.take cn).drop bn)]):=Z5;have wi:=Je (w:=wc) (T:=T) (N:=N) (ra:=some ⟨b0,o0,none⟩) (rn:=R.length) (rc:=rc) (op:=op) (a:=ka) (b:=bn) (c:=cn) (M:=(N:Int)+1) (oa:=la) (on:=RK.length) (oc:=lc);clear Rx Ai Z5
  go_wp2_with
   (go_at_call 233;refine wi.mono ?_;rintro e w3 ⟨rfl,hB3⟩
    have iH:Hid (dm w cs 245 (some ⟨b0,o0,none⟩) rc R w3):=HC8.out.next hB3;have xA:Hid (bA w3 (w.heap.size+2) (.slice la RK.length lc) RK):=qW.out.below hB3;have y0:=iH.out.y0;have y1:=iH.out.y1;have y2:=iH.out.y2;have Ff:=iH.out.yf 0;have Fg:=iH.out.yf 1;have Fh:=iH.out.yf 2
    clear wi hB3)
  have q0:=yu (v0:= .int .i64 T) (v1:= .int .i64 (N+1)) (v2:= .slice la RK.length lc) y0;have q1:=yw (v0:= .int .i64 T) (v1:= .int .i64 (N+1)) (v2:= .slice la RK.length lc) y1;have q2:=yx (v0:= .int .i64 T) (v1:= .int .i64 (N+1)) (v2:= .slice la RK.length lc) y2;refine aH (v:= .agg #[.int .i64 T,.int .i64 (N+1),.slice la RK.length lc]) (by simp[results,Tryz.results237,go_sem,q0,q1,q2]) rfl ?_;have ho:=iH.out.out xA.out (.int .i64 T) (.int .i64 (N+1)) (.slice la RK.length lc);exact⟨_,RK,rfl,ho.1,Pp.out,ho.2⟩
theorem ahT{g f sl lc:Nat}{fi:Int}(hf:fi=f)(hu:f<=lc)(w:World):Sem.run Tryz.prog (Instr.sliceAt 25 (.slice (some ⟨g,0,none⟩) sl lc) none (some (.int .i64 fi)) none) w= .ok (.slice (some ⟨g,0,none⟩) f lc) w:=by
 subst hf;have h0:(0:Int)<=(f:Int):=aF _;have h1:(f:Int)<=(lc:Int):=by omega
 go_simp
theorem ahU{la:Option Addr}{f n sl lc:Nat}{fi:Int}(hf:fi=f)(hs:sl=f+n):∃A,(∀w:World,Sem.run Tryz.prog (Instr.sliceAt 25 (.slice la sl lc) (some (.int .i64 fi)) none none) w= .ok (.slice A n (lc-f)) w)/\(lc≠f->A=la.map (·.add (f*2))):=by
 subst hf;have h0:(0:Int)<=(f:Int):=aF _;have h1:(f:Int)<=(sl:Int):=by omega
 have h2:sl-f=n:=by omega
 refine⟨if lc=f then la else la.map (·.add (f*2)),λw=> ?_,λh=>by rw[aj h]⟩
 go_simp
 intro h;omega
section
variable{w:World}{B:Nat}{e:TypeId}{v:Value}{n:Nat}{xs:List Value}
theorem ahV(h:w.ownsRow B e 2 v n xs)(h1:∀u∈xs,u.oneCell'=true):gT w v n xs:=by
 have hh:=h;obtain⟨hl,⟨hv,h0⟩|⟨g,cap,cur,hv,hb,_,hle,_⟩⟩:=hh
 ·exact⟨⟨none,0,by rw[hv,h0],by omega⟩,hl,h1,λhm=>by omega⟩
 ·subst hv
  refine⟨⟨_,_,rfl,hle⟩,hl,h1,λ_=>⟨_,_,rfl,λj u hu=> ?_⟩⟩;have hj:=(qw.1 hu).1;rw[Addr.add_lit,eO,h.cellAt j (by omega),hu]
theorem gT.take{f:Nat}{qa:Option Addr}{d:Nat}(h:gT w (.slice qa n d) n xs)(hf:f<=n):gT w (.slice qa f d) f (xs.take (f*2)):=by
 obtain⟨⟨_,_,hv,hle⟩,hl,h1,hc⟩:=h;cases hv;refine⟨⟨_,_,rfl,by omega⟩,by rw[fq];omega,λu hu=>h1 u (wR hu),λhm=> ?_⟩;obtain⟨ad,c,hv,hcell⟩:=hc (by omega);cases hv;refine⟨_,_,rfl,λj u hu=>hcell j u ?_⟩;rw[List.getElem?_take]at hu;split at hu
 ·exact hu
 ·cases hu
theorem gT.drop{f m:Nat}{qa A:Option Addr}{d:Nat}(h:gT w (.slice qa n d) n xs)(hf:n=f+m)(hA:d≠f->A=qa.map (·.add (f*2))):gT w (.slice A m (d-f)) m (xs.drop (f*2)):=by
 obtain⟨⟨_,_,hv,hle⟩,hl,h1,hc⟩:=h;cases hv;refine⟨⟨_,_,rfl,by omega⟩,by rw[pE];omega,λu hu=>h1 u (BK hu),λhm=> ?_⟩;obtain⟨ad,c,hv,hcell⟩:=hc (by omega);cases hv;have hA':=hA (by omega);simp only[Option.map_some]at hA';subst hA';refine⟨_,_,rfl,λj u hu=> ?_⟩;rw[JK]at hu;have:=hcell _ _ hu;rw[<-this]
 congr 1
 unfold Addr.add;by_cases h0:f*2=0
 ·have:f=0:=by omega
  subst this;simp
 ·by_cases h2:j=0
  ·subst h2;simp
  ·have h3:¬(f*2+j=0):=by omega
   simp only[h0,h2,h3,bN]
   congr 1
   omega
end
theorem ahW(RL:List (Value×Ru))(f:Nat):(dY RL).take (f*2)=dY (RL.take f):=by
 unfold dY
 induction RL generalizing f with
 |nil=>simp
 |cons a RL ih=>
  cases f with
  |zero=>simp
  |succ f=>
   rw[gV,List.take_succ_cons,gV,<-ih f,show (f+1)*2=f*2+1+1 by omega];simp[lT]
theorem ahX(RL:List (Value×Ru))(f:Nat):(dY RL).drop (f*2)=dY (RL.drop f):=by
 unfold dY
 induction RL generalizing f with
 |nil=>simp
 |cons a RL ih=>
  cases f with
  |zero=>simp
  |succ f=>
   rw[gV,qP,<-ih f,show (f+1)*2=f*2+1+1 by omega];simp[lT]
section
variable{w w6:World}{B n:Nat}{lv pv nv:Value}{RL PL RK:List (Value×Ru)}
theorem bA.rowAt(h:bA w B lv RL):gT w lv RL.length (dY RL):=ahV h.own (agP h.slices)
theorem bA.cat(h1:bA w B lv RL)(h2:bA w B pv PL)(hB:B<=w.heap.size)(hb:Below w.heap.size w w6)(ho:w6.ownsRow w.heap.size 96 2 nv RK.length (dY RK))(hm:∀x∈RK,x∈RL\/x∈PL):bA w6 B nv RK:=by
 refine⟨lq ho hB,λx hx=> ?_⟩;have zx:∀b,b<w.heap.size->nv.ownBlock≠some b:=λb hlt e=>by have:=(ho.lt b e).1;omega
 rcases hm x hx with hx|hx
 ·exact(h1.sym x hx).kept hb.size λb hA hlt=>⟨hb.block b hlt,hA.1,zx b hlt⟩
 ·exact(h2.sym x hx).kept hb.size λb hA hlt=>⟨hb.block b hlt,hA.1,zx b hlt⟩
theorem ahY{pb:Nat}{va vb vc:Value}{xa xb xc:List Value}{na nb nc:Nat}(p0:w.cell? ⟨pb,0,none⟩=some va)(p1:w.cell? ⟨pb,1,none⟩=some vb)(p2:w.cell? ⟨pb,2,none⟩=some vc)(ha:gT w va na xa)(hb:gT w vb nb xb)(hc:gT w vc nc xc)(hs:na+nb+nc<=100000):
 Calls Tryz.prog 244 #[.slice (some ⟨pb,0,none⟩) 3 3] w λe w'=> ∃a d,e= .returned (.slice a (na+nb+nc) d)/\w'.ownsRow w.heap.size 96 2 (.slice a (na+nb+nc) d) (na+nb+nc) (xa++xb++xc)/\Below w.heap.size w w':=by
 have hN:eG [(va,na,xa),(vb,nb,xb),(vc,nc,xc)]=na+nb+nc:=by simp[eG];omega
 have hX:nD [(va,na,xa),(vb,nb,xb),(vc,nc,xc)]=xa++xb++xc:=by simp[nD]
 have cc:=agI (w:=w) (pb:=pb) (PL:=[(va,na,xa),(vb,nb,xb),(vc,nc,xc)]) (λi hi=>by
  match i,hi with
  |0,_=>exact p0
  |1,_=>exact p1
  |2,_=>exact p2
  |i+3,hi=>exact absurd hi (by simp)) (λp hp=>by
  simp only[iW,wS,wY]at hp;rcases hp with rfl|rfl|rfl
  ·exact ha
  ·exact hb
  ·exact hc) (by rw[hN];exact hs) (by simp)
 rw[hN,hX]at cc;exact cc
end
theorem ahZ{w:World}{T:Int}{N ka bn m:Nat}{ra:Option Addr}{rc:Nat}{op c at_:Int}{R:List Ru}{L:Int}{l:List Sy}{sv:Value}{CH:List Int}(hr:aG w w.heap.size (.slice ra R.length rc) R)(hl:R.length<=1000)(hl2:∀q,q<R.length->(R.getD q (0,[])).2.length<=1000)(hk:ka<R.length)(hx:R.getD ka (0,[])=(L,l))(hcl:l.length=bn+1+m)
 (hS:aY w w.heap.size sv CH) (hCH:∀k,k<CH.length->0<=CH.getD k 0/\CH.getD k 0<(R.length:Int)) (hc:CH.length<=1000):
 Calls Tryz.prog 243 #[.agg #[.int .i64 T,.int .i64 N,.slice ra R.length rc,.int .i64 op,.int .i64 ka,.int .i64 bn,.int .i64 c,sv,.int .i64 at_]] w λe w'=> ∃lv RL,e= .returned (.agg #[.int .i64 T,.int .i64 N,lv])/\bA w' w.heap.size lv RL/\(RL.map λx=>x.2)=R.take ka++CH.map (λi=>(L,l.take bn++(R.getD i.toNat (0,[])).2++l.drop (bn+1)))++R.drop (ka+1)/\Below w.heap.size w w':=by
 obtain⟨sa,sc,hsv⟩:=hS.1;subst hsv;obtain⟨cs,hcs⟩:∃cs:Array Value,#[.int .i64 T,.int .i64 N,.slice ra R.length rc,.int .i64 op,.int .i64 ka,.int .i64 bn,.int .i64 c,.slice sa CH.length sc,.int .i64 at_]=cs:=⟨_,rfl⟩;have hC0:dm w cs 248 ra rc R ((w.alloc (.cells cs 248)).alloc (.cells #[.int .i64 0,.int .i64 0,.slice none 0 0] 27)):=ME hr;rw[<-hcs]at hC0;obtain⟨W0,hW0⟩:=af ((w.alloc (.cells #[.int .i64 T,.int .i64 N,.slice ra R.length rc,.int .i64 op,.int .i64 ka,.int .i64 bn,.int .i64 c,.slice sa CH.length sc,.int .i64 at_] 248)).alloc (.cells #[.int .i64 0,.int .i64 0,.slice none 0 0] 27));rw[hW0,hcs]at hC0;have xX:Hid (#[.int .i64 T,.int .i64 N,.slice ra R.length rc,.int .i64 op,.int .i64 ka,.int .i64 bn,.int .i64 c,.slice sa CH.length sc,.int .i64 at_]=cs):=hcs
 have dM:Hid (∀wq,dm w cs 248 ra rc R wq->wq.cell? ⟨w.heap.size,0,none⟩=some (.int .i64 T)/\wq.cell? ⟨w.heap.size,1,none⟩=some (.int .i64 N)/\wq.cell? ⟨w.heap.size,2,none⟩=some (.slice ra R.length rc)/\wq.cell? ⟨w.heap.size,3,none⟩=some (.int .i64 op)/\wq.cell? ⟨w.heap.size,4,none⟩=some (.int .i64 ka)/\wq.cell? ⟨w.heap.size,5,none⟩=some (.int .i64 bn)/\wq.cell? ⟨w.heap.size,6,none⟩=some (.int .i64 c)/\wq.cell? ⟨w.heap.size,7,none⟩=some (.slice sa CH.length sc)):=λwq hq=>by
  refine⟨hq.cell ?_,hq.cell ?_,hq.cell ?_,hq.cell ?_,hq.cell ?_,hq.cell ?_,hq.cell ?_,hq.cell ?_⟩<;>(rw[<-xX.out];rfl)
 obtain⟨x0,x1,x2,x3,x4,x5,x6,x7⟩:=dM.out W0 hC0;obtain⟨b0,o0,uM,qa,qc,hv,_,k1,k2,hsy⟩:=hC0.rules.mR hk;cases hv;have nE:=hl2 ka hk;rw[hx]at k1 k2 hsy nE;simp only at k1 k2 hsy nE;have hqc:l.length<=qc:=by obtain⟨_,_,hv,hle⟩:=hsy.1;cases hv;exact hle
 obtain⟨ad,rfl⟩:=hsy.MG (by omega);rw[hcl]at k2 nE hqc;obtain⟨W1,hW1⟩:=af (W0.alloc (.cells #[.int .i64 L,.slice (some ad) (bn+1+m) qc] 96));obtain⟨rb,hrb⟩:=af W0.heap.size;have hB1:Below W0.heap.size W0 W1:=by rw[<-hW1];exact(ai _ _).alloc (ah _) _
 have HB1:Hid (Below W0.heap.size W0 W1):=hB1;have r0:W1.cell? ⟨rb,0,none⟩=some (.int .i64 L):=by rw[<-hW1,<-hrb];exact aM (heap_alloc_new _ _) rfl
 have r1:W1.cell? ⟨rb,1,none⟩=some (.slice (some ad) (bn+1+m) qc):=by rw[<-hW1,<-hrb];exact aM (heap_alloc_new _ _) rfl
 have zS:=hC0.next hB1
 have HW:Hid (dm w cs 248 (some ⟨b0,o0,none⟩) rc R W1/\W1.cell? ⟨rb,0,none⟩=some (.int .i64 L)/\W1.cell? ⟨rb,1,none⟩=some (.slice (some ad) (bn+1+m) qc)/\rb<W1.heap.size/\dh W1 (.slice (some ad) (bn+1+m) qc) l/\w.heap.size+2<=W1.heap.size):=by
  refine⟨zS,r0,r1,aQ _ _ r0,?_,zS.size⟩;have:=hsy.same (ko hB1);rw[hcl]at this;exact this
 have HS:Hid (∀wq,dm w cs 248 (some ⟨b0,o0,none⟩) rc R wq->aY wq w.heap.size (.slice sa CH.length sc) CH):=λwq hq=>hS.below hq.below;have HCH:Hid (∀k,k<CH.length->0<=CH.getD k 0/\CH.getD k 0<(R.length:Int)):=hCH;have H2:Hid (∀q,q<R.length->(R.getD q (0,[])).2.length<=1000):=hl2;have HX:Hid (R.getD ka (0,[])=(L,l)/\l.length=bn+1+m):=⟨hx,hcl⟩;have y7:=(dM.out W1 zS).2.2.2.2.2.2.2;have i0:(0:Int)<=(ka:Int):=aF _;have i1:(ka:Int)<(R.length:Int):=by omega
 clear hr hl2 hx hcl hC0 hcs hsy hB1 hS hCH zS
 go_enter Tryz.func243,Tryz.ntmps243
 go_wp2_with fail
 clear x0 x1 x2 x3 x4 x5 x6 x7 y7 k1 k2 hW0 hW1 hrb r0 r1 HB1;have hup:=λw=>Jg (ad:=ad) (f:=bn) (sl:=bn+1+m) (lc:=qc) (fi:=(bn:Int)) rfl (by omega) w;obtain⟨A,hA,hA'⟩:=QW (la:=some ad) (f:=bn+1) (n:=m) (sl:=bn+1+m) (lc:=qc) (fi:=(bn:Int)+1) (by push_cast;rfl) rfl;have CQ:Hid (qc≠bn+1->A=(some ad).map (·.add ((bn+1)*2))):=hA';have i5:IntKind.i64.wrap ((bn:Int)+1)=(bn:Int)+1:=uE _ (by omega);clear hA'
 go_loopw [4,22] (λs4 PU wr=> ∃(k:Nat) (pv:Value) (PL:List (Value×Ru)),pv=s4/\PU= .int .i64 k/\k<=CH.length/\bA wr W1.heap.size pv PL/\PL.length=k/\(PL.map λx=>x.2)=(CH.take k).map (λi=>(L,l.take bn++(R.getD i.toNat (0,[])).2++l.drop (bn+1)))/\Below W1.heap.size W1 wr) (λ_ s _=>CH.length-(intOf s).toNat)
 case atStart=>exact⟨0,_,[],rfl,rfl,aP _,MB _ _,rfl,rfl,ai _ _⟩
 case round=>
  obtain⟨k,pv,PL,rfl,rfl,hk',hP,yE,hmap,hB⟩:=hrel;have HP:Hid (bA wr W1.heap.size pv PL/\PL.length=k/\(PL.map λx=>x.2)=(CH.take k).map (λi=>(L,l.take bn++(R.getD i.toNat (0,[])).2++l.drop (bn+1)))):=⟨hP,yE,hmap⟩;have HB:Hid (Below W1.heap.size W1 wr):=hB;have Dc:=HW.out.1.next hB;by_cases hlt:k<CH.length
  ·obtain⟨sb,so,_,hv,_,s1⟩:=(HS.out wr Dc).2 k hlt
   cases hv;obtain⟨hi0,hi1⟩:=HCH.out k hlt;obtain⟨i,hi⟩:=af (CH.getD k 0);rw[hi]at hi0 hi1 s1;obtain⟨q,rfl⟩:∃q:Nat,i=q:=⟨i.toNat,by omega⟩;have hq:q<R.length:=by omega
   obtain⟨b2,o2,Yw,Df,qc2,hv,_,k1,k2,hsy⟩:=Dc.rules.mR hq;cases hv;have Ry:=H2.out q hq;obtain⟨⟨L2,l2⟩,hx2⟩:=af (R.getD q (0,[]));rw[hx2]at k1 k2 hsy Ry;simp only at k1 k2 hsy Ry;obtain⟨n2,hn2⟩:=af l2.length;rw[hn2]at k2 hsy Ry
   have mY:Hid ((CH.take (k+1)).map (λi=>(L,l.take bn++(R.getD i.toNat (0,[])).2++l.drop (bn+1)))=(CH.take k).map (λi=>(L,l.take bn++(R.getD i.toNat (0,[])).2++l.drop (bn+1)))++[(L,l.take bn++l2++l.drop (bn+1))]/\l2.length=n2):=by
    refine⟨?_,hn2⟩;rw[fT hlt,fD];have e:CH[k]=(q:Int):=by rw[<-hi];simp[List.getD,hlt]
    rw[e,jB,oq,Int.toNat_natCast,hx2]
   have ah0:Hid (∀wq,Below wr.heap.size wr wq->dh wq (.slice Df n2 qc2) l2):=λwq hB=>hsy.same (ko hB);have j0:(0:Int)<=(k:Int):=aF _;have j1:(k:Int)<(CH.length:Int):=by omega
   have q0:(0:Int)<=(q:Int):=aF _;have fQ:Hid (wr.cell? ⟨b0,o0+q*2+1,none⟩=some (.slice Df n2 qc2)):=k2;clear hP yE hmap hx2 hn2 hsy hi Dc hB k1 k2
   go_upto_region 6 with fail
   obtain⟨Wd,hWd⟩:=af wr.drew;have hBd:Below wr.heap.size wr Wd:=by rw[<-hWd];exact(ai _ _).drew
   have dz:Hid (Below wr.heap.size wr Wd):=hBd
   have gM:Hid (∀wq,Below Wd.heap.size Wd wq->wq.cell? ⟨rb,1,none⟩=some (.slice (some ad) (bn+1+m) qc)/\wq.cell? ⟨w.heap.size,5,none⟩=some (.int .i64 bn)/\wq.cell? ⟨w.heap.size,2,none⟩=some (.slice (some ⟨b0,o0,none⟩) R.length rc)/\wq.cell? ⟨b0,o0+q*2+1,none⟩=some (.slice Df n2 qc2)):=λwq hq=>by
    have h1:Below wr.heap.size wr wq:=dz.out.trans (hq.mono dz.out.size);have h2:Below W1.heap.size W1 wq:=HB.out.trans (h1.mono HB.out.size);have h3:=dM.out wq (HW.out.1.next h2);exact⟨(h2.cell (aQ _ _ HW.out.2.2.1)).trans HW.out.2.2.1,h3.2.2.2.2.2.1,h3.2.2.1,(h1.cell (aQ _ _ fQ.out)).trans fQ.out⟩
   have S0:=gM.out Wd (ai _ _);clear hBd s1;refine mK [0,1,2,3,4,5,6,7,8,9,10,11,12,13,14,15,16,17,18,19,20,21,22] 3 25 (λwq=>wq.cell? ⟨rb,1,none⟩=some (.slice (some ad) (bn+1+m) qc)/\wq.cell? ⟨w.heap.size,5,none⟩=some (.int .i64 bn)/\wq.cell? ⟨w.heap.size,2,none⟩=some (.slice (some ⟨b0,o0,none⟩) R.length rc)/\wq.cell? ⟨b0,o0+q*2+1,none⟩=some (.slice Df n2 qc2)) (by kernel_rfl) (by kernel_rfl) (by rw[hWd];exact S0) ?_;rw[hWd];clear hWd S0
   iterate 23
    refine aW.zQ (v:= ?_) rfl (by rfl) ?_ ?_;rotate_left
    ·intro w' hSw
     obtain⟨z0,z1,z2,z3⟩:=hSw
     go_simp
     try with_reducible rfl
    simp only[Act.put,eB,List.set_cons_zero,List.set_cons_succ]
   rw[aW];have dQ:Below Wd.heap.size Wd (Wd.alloc (.cells #[.slice (some ad) bn qc,.slice Df n2 qc2,.slice A m (qc-(bn+1))] 94)):=(ai _ _).alloc (ah _) _;refine aC.one (i:=23) (by kernel_rfl) ⟨_,rfl,λK hK=> ?_⟩
   go_simp
   refine hK.out _ _ (λ_=>gM.out _ dQ) ?_;clear hK;obtain⟨w5,lg⟩:=af (Wd.alloc (.cells #[.slice (some ad) bn qc,.slice Df n2 qc2,.slice A m (qc-(bn+1))] 94));have p0:w5.cell? ⟨Wd.heap.size,0,none⟩=some (.slice (some ad) bn qc):=by rw[<-lg];exact aM (heap_alloc_new _ _) rfl
   have p1:w5.cell? ⟨Wd.heap.size,1,none⟩=some (.slice Df n2 qc2):=by rw[<-lg];exact aM (heap_alloc_new _ _) rfl
   have p2:w5.cell? ⟨Wd.heap.size,2,none⟩=some (.slice A m (qc-(bn+1))):=by rw[<-lg];exact aM (heap_alloc_new _ _) rfl
   rw[lg]at dQ⊢;clear lg;have lg:Below wr.heap.size wr w5:=dz.out.trans (dQ.mono dz.out.size)
   have hs5:dh w5 (.slice (some ad) l.length qc) l:=by
    rw[HX.out.2];exact HW.out.2.2.2.2.1.same (ko (HB.out.trans (lg.mono HB.out.size)))
   have hlt1:(l.take bn).length=bn:=by rw[fq,HX.out.2];omega
   have hld:(l.drop (bn+1)).length=m:=by rw[pE,HX.out.2];omega
   have cc:=Y9 p0 p1 p2 (hs5.Fj (f:=bn) (by rw[HX.out.2];omega)) (ah0.out w5 lg) (hs5.MF HX.out.2 CQ.out) (by rw[hlt1,hld,mY.out.2];omega);rw[hlt1,hld,mY.out.2]at cc;refine aC.one (i:=24) (by kernel_rfl) ⟨_,rfl,λK hK=> ?_⟩
   go_simp
   refine cc.mono ?_;rintro e w6 ⟨a6,d6,rfl,hown6,bC⟩;dsimp only;have iO:Below Wd.heap.size Wd w6:=dQ.trans (bC.mono dQ.size);refine hK.out _ _ (λ_=>gM.out _ iO) ?_;clear hK cc;refine aC.last (i:=25) (by kernel_rfl) ⟨_,rfl,λK hK=> ?_⟩
   go_simp
   refine hK.out _ _ (λh=>absurd h (by omega)) (NoPanic.normal ?_);have M6:Below wr.heap.size wr w6:=dz.out.trans (iO.mono dz.out.size);have t0:=((HB.out.trans (M6.mono HB.out.size)).cell (aQ _ _ HW.out.2.1)).trans HW.out.2.1;have hrow:gT (w6.alloc (.cells #[.int .i64 L,.slice a6 (bn+n2+m) d6] 96)) (.slice (some ⟨w6.heap.size,0,none⟩) 1 1) 1 [.int .i64 L,.slice a6 (bn+n2+m) d6]:=Fe;have iM:Below wr.heap.size wr (w6.alloc (.cells #[.int .i64 L,.slice a6 (bn+n2+m) d6] 96)):=M6.alloc M6.size _;have Z6:=(HP.out.1.below iM).own;have IL:W1.heap.size<=(w6.alloc (.cells #[.int .i64 L,.slice a6 (bn+n2+m) d6] 96)).heap.size:=aZ HB.out.size iM.size;have hl7:PL.length+1<=100000:=by rw[HP.out.2.1];omega
   have LY:Hid (Below wr.heap.size wr (w6.alloc (.cells #[.int .i64 L,.slice a6 (bn+n2+m) d6] 96))):=iM
   have xZ:Hid (w6.ownsRow wr.heap.size 121 2 (.slice a6 (bn+n2+m) d6) (bn+n2+m) (bD (l.take bn++l2++l.drop (bn+1)))/\(l.take bn++l2++l.drop (bn+1)).length=bn+n2+m):=by
    refine⟨lq hown6 lg.size,?_⟩;rw[aS,aS,hlt1,hld,mY.out.2]
   clear hK p0 p1 p2 hs5 hown6 bC iO dQ lg M6 iM hlt1 hld
   go_wp2_with
    (at_builtin
     refine Jd rfl _ _ rfl rfl rfl rfl Z6 hrow IL hl7 ?_
     intro a' d' w8 ah1 hgrow hat)
   go_roundw
   case rel=>
    refine⟨k+1,_,PL++[(.slice a6 (bn+n2+m) d6,(L,l.take bn++l2++l.drop (bn+1)))],rfl,by go_num,by omega,?_,by rw[aS,HP.out.2.1];rfl,by rw[fD,HP.out.2.2,mY.out.1];rfl,?_⟩
    ·refine HP.out.1.MH (w5:=w6.alloc (.cells #[.int .i64 L,.slice a6 (bn+n2+m) d6] 96)) HB.out.size LY.out ?_ hgrow ?_ (λg hg=>(hat g hg).imp id λe=>by omega)
     ·rw[xZ.out.2]
      exact xZ.out.1.alloc _
     ·rw[Fb]
      exact ah1
    ·exact(HB.out.trans (LY.out.mono HB.out.size)).grown hgrow IL λg hg=>(Z6.lt g hg).1
   case measure=>simp[intOf];omega
  ·have hkk:k=CH.length:=by omega
   have cop:=MC (w:=wr) (T:=T) (N:=N) (op:=op) (a:=ka) (b:=bn) (c:=c) (Dc.rules.mono (aZ (by omega) Dc.size)) hl H2.out;obtain⟨x0,x1,x2,x3,x4,x5,x6,x7⟩:=dM.out wr Dc;have Jq:Hid (k=CH.length):=hkk;obtain⟨pa,pc,hpv⟩:=cO hP.own;subst hpv;clear hP yE hmap hB hkk Dc
   go_upto_region 10 with(go_at_call 231;refine cop.mono ?_;rintro e w3 ⟨lv,RL,rfl,hO,hmap,hB3⟩;clear cop)
   have hlen:RL.length=R.length:=by rw[<-hmap,cK]
   obtain⟨g,cap,hlv,hg0,_⟩:=hO.ul.form (by omega);subst hlv;obtain⟨mm,hmm⟩:∃mm,R.length=ka+1+mm:=⟨R.length-(ka+1),by omega⟩
   have hcap:RL.length<=cap:=by
    obtain⟨_,⟨hv,_⟩|⟨_,_,_,hv,_,_,hle,_⟩⟩:=hO.ul
    ·cases hv
    ·cases hv;exact hle
   have hR2:bA w3 W1.heap.size (.slice (some ⟨g,0,none⟩) RL.length cap) RL:=hO.Jf.mono HB.out.size;have HM:Hid ((RL.map λx=>x.2)=R/\RL.length=R.length):=⟨hmap,hlen⟩;rw[hlen];rw[hlen]at hcap;have agZ:=λw=>ahT (g:=g) (f:=ka) (sl:=R.length) (lc:=cap) (fi:=(ka:Int)) rfl (by omega) w;obtain⟨A2,hA2,Jr⟩:=ahU (la:=some ⟨g,0,none⟩) (f:=ka+1) (n:=mm) (sl:=R.length) (lc:=cap) (fi:=(ka:Int)+1) (by push_cast;rfl) hmm;have ah2:Hid (cap≠ka+1->A2=(some (⟨g,0,none⟩:Addr)).map (·.add ((ka+1)*2))):=Jr;have i6:IntKind.i64.wrap ((ka:Int)+1)=(ka:Int)+1:=uE _ (by omega);obtain⟨Wd,hWd⟩:=af w3.drew;have hBd:Below w3.heap.size w3 Wd:=by rw[<-hWd];exact(ai _ _).drew
   have HB3:Hid (Below W1.heap.size W1 w3):=HB.out.trans (hB3.mono HB.out.size);have dz:Hid (Below W1.heap.size W1 Wd):=HB3.out.trans (hBd.mono HB3.out.size);have fM:Hid (bA Wd W1.heap.size (.slice (some ⟨g,0,none⟩) RL.length cap) RL/\bA Wd W1.heap.size (.slice pa PL.length pc) PL):=⟨hR2.below hBd,(HP.out.1.below hB3).below hBd⟩;have fZ:Hid (∀wq,Below Wd.heap.size Wd wq->dm w cs 248 (some ⟨b0,o0,none⟩) rc R wq):=λwq hq=>HW.out.1.next (dz.out.trans (hq.mono dz.out.size))
   have gM:Hid (∀wq,Below Wd.heap.size Wd wq->wq.cell? ⟨w.heap.size,0,none⟩=some (.int .i64 T)/\wq.cell? ⟨w.heap.size,1,none⟩=some (.int .i64 N)/\wq.cell? ⟨w.heap.size,2,none⟩=some (.slice (some ⟨b0,o0,none⟩) R.length rc)/\wq.cell? ⟨w.heap.size,3,none⟩=some (.int .i64 op)/\wq.cell? ⟨w.heap.size,4,none⟩=some (.int .i64 ka)/\wq.cell? ⟨w.heap.size,5,none⟩=some (.int .i64 bn)/\wq.cell? ⟨w.heap.size,6,none⟩=some (.int .i64 c)):=λwq hq=>
    let h:=dM.out wq (fZ.out wq hq)
    ⟨h.1,h.2.1,h.2.2.1,h.2.2.2.1,h.2.2.2.2.1,h.2.2.2.2.2.1,h.2.2.2.2.2.2.1⟩
   have S0:=gM.out Wd (ai _ _);have Rz:Hid (R.length=ka+1+mm):=hmm;clear hO hmap hlen hB3 hBd hR2 Jr x0 x1 x2 x3 x4 x5 x6 x7 hmm;refine mK [0,1,2,3,4,5,6,7,8,9,10,11,12,13,14,15,16,17,18,19] 4 23 (λwq=>wq.cell? ⟨w.heap.size,0,none⟩=some (.int .i64 T)/\wq.cell? ⟨w.heap.size,1,none⟩=some (.int .i64 N)/\wq.cell? ⟨w.heap.size,2,none⟩=some (.slice (some ⟨b0,o0,none⟩) R.length rc)/\wq.cell? ⟨w.heap.size,3,none⟩=some (.int .i64 op)/\wq.cell? ⟨w.heap.size,4,none⟩=some (.int .i64 ka)/\wq.cell? ⟨w.heap.size,5,none⟩=some (.int .i64 bn)/\wq.cell? ⟨w.heap.size,6,none⟩=some (.int .i64 c)) (by kernel_rfl) (by kernel_rfl) (by rw[hWd];exact S0) ?_;rw[hWd];clear hWd S0
   iterate 20
    refine aW.zQ (v:= ?_) rfl (by rfl) ?_ ?_;rotate_left
    ·intro w' hSw
     obtain⟨z0,z1,z2,z3,z4,z5,z6⟩:=hSw
     go_simp
     try with_reducible rfl
    simp only[Act.put,eB,List.set_cons_zero,List.set_cons_succ]
   rw[aW];have dQ:Below Wd.heap.size Wd (Wd.alloc (.cells #[.slice (some ⟨g,0,none⟩) ka cap,.slice pa PL.length pc,.slice A2 mm (cap-(ka+1))] 25)):=(ai _ _).alloc (ah _) _;refine aC.one (i:=20) (by kernel_rfl) ⟨_,rfl,λK hK=> ?_⟩
   go_simp
   refine hK.out _ _ (λ_=>gM.out _ dQ) ?_;clear hK;obtain⟨w5,lg⟩:=af (Wd.alloc (.cells #[.slice (some ⟨g,0,none⟩) ka cap,.slice pa PL.length pc,.slice A2 mm (cap-(ka+1))] 25));have p0:w5.cell? ⟨Wd.heap.size,0,none⟩=some (.slice (some ⟨g,0,none⟩) ka cap):=by rw[<-lg];exact aM (heap_alloc_new _ _) rfl
   have p1:w5.cell? ⟨Wd.heap.size,1,none⟩=some (.slice pa PL.length pc):=by rw[<-lg];exact aM (heap_alloc_new _ _) rfl
   have p2:w5.cell? ⟨Wd.heap.size,2,none⟩=some (.slice A2 mm (cap-(ka+1))):=by rw[<-lg];exact aM (heap_alloc_new _ _) rfl
   rw[lg]at dQ⊢;clear lg;have uD:=fM.out.1.below dQ;have Bl:=fM.out.2.below dQ;have e1:=uD.rowAt.take (f:=ka) (by rw[HM.out.2];omega);have e2:=uD.rowAt.drop (f:=ka+1) (m:=mm) (by rw[HM.out.2];exact Rz.out) ah2.out;rw[ahW]at e1;rw[ahX]at e2;have cc:=ahY p0 p1 p2 e1 Bl.rowAt e2 (by rw[HP.out.2.1];have:=Rz.out;omega);rw[<-Q0,<-Q0]at cc;refine aC.one (i:=21) (by kernel_rfl) ⟨_,rfl,λK hK=> ?_⟩
   go_simp
   refine cc.mono ?_;rintro e w6 ⟨a6,d6,rfl,hown6,bC⟩;dsimp only;have iO:Below Wd.heap.size Wd w6:=dQ.trans (bC.mono dQ.size);refine hK.out _ _ (λ_=>gM.out _ iO) ?_;clear hK cc
   have hlK:(RL.take ka++PL++RL.drop (ka+1)).length=ka+PL.length+mm:=by
    rw[aS,aS,fq,pE,HM.out.2];have:=Rz.out;omega
   have BI:bA w6 W1.heap.size (.slice a6 (ka+PL.length+mm) d6) (RL.take ka++PL++RL.drop (ka+1)):=by
    refine uD.cat Bl (aZ dz.out.size dQ.size) bC (by rw[hlK];exact hown6) λx hx=> ?_;rcases iV.1 hx with hx|hx
    ·rcases iV.1 hx with hx|hx
     ·exact .inl (wR hx)
     ·exact .inr hx
    ·exact .inl (BK hx)
   have wi:=Je (w:=w6) (T:=T) (N:=N) (ra:=some ⟨b0,o0,none⟩) (rn:=R.length) (rc:=rc) (op:=op) (a:=ka) (b:=bn) (c:=c) (M:=N) (oa:=a6) (on:=ka+PL.length+mm) (oc:=d6);refine aC.one (i:=22) (by kernel_rfl) ⟨_,rfl,λK hK=> ?_⟩
   go_simp
   refine wi.mono ?_;rintro e w7 ⟨rfl,iM⟩;dsimp only;have Z7:Below Wd.heap.size Wd w7:=iO.trans (iM.mono iO.size);refine hK.out _ _ (λ_=>gM.out _ Z7) ?_;clear hK wi;have iH:Hid (dm w cs 248 (some ⟨b0,o0,none⟩) rc R w7):=fZ.out w7 Z7;have xA:Hid (bA w7 (w.heap.size+2) (.slice a6 (ka+PL.length+mm) d6) (RL.take ka++PL++RL.drop (ka+1))):=(BI.below iM).mono HW.out.2.2.2.2.2;have z0:=iH.out.y0;have z1:=iH.out.y1;have z2:=iH.out.y2;have ZQ:=iH.out.yf 0;have ZR:=iH.out.yf 1;have ZU:=iH.out.yf 2;refine aC.last (i:=23) (by kernel_rfl) ⟨_,rfl,λK hK=> ?_⟩
   go_simp
   refine hK.out _ _ (λh=>absurd h (by omega)) (NoPanic.normal ?_);have q0:=yu (v0:= .int .i64 T) (v1:= .int .i64 N) (v2:= .slice a6 (ka+PL.length+mm) d6) z0;have q1:=yw (v0:= .int .i64 T) (v1:= .int .i64 N) (v2:= .slice a6 (ka+PL.length+mm) d6) z1;have q2:=yx (v0:= .int .i64 T) (v1:= .int .i64 N) (v2:= .slice a6 (ka+PL.length+mm) d6) z2;clear hK
   go_wp2_with fail
   refine aH (v:= .agg #[.int .i64 T,.int .i64 N,.slice a6 (ka+PL.length+mm) d6]) (by simp[results,Tryz.results243,go_sem,q0,q1,q2]) rfl ?_;have ho:=iH.out.out xA.out (.int .i64 T) (.int .i64 N) (.slice a6 (ka+PL.length+mm) d6);refine⟨_,_,rfl,ho.1,?_,ho.2⟩;rw[fD,fD,List.map_take,List.map_drop,HM.out.1,HP.out.2.2,Jq.out,gH]
end Go.Proofs.YthbifaoaiggooaaGreatDoor
