import Derived.Test.YthbifaoaiggooaaGreatDoorq23
set_option maxHeartbeats 3200000
set_option maxRecDepth 100000
namespace Go.Proofs.YthbifaoaiggooaaGreatDoor
open Go.RowKit
def stepG(p:bW)(s:Stp):Bool:=aJ p.T (nX p.N s:Nat) (je p.N p.R s)
def kC(p:bW)(s:Stp):bW:=if bK p.N p.R s=true/\stepG p s=true then ⟨p.tx,p.T,nX p.N s,je p.N p.R s⟩ else p
def kV(p:bW)(s:Stp):List UInt8:=if bK p.N p.R s=true then (if stepG p s=true then bY [111,107] [((je p.N p.R s).length:Int)] else bY [98,97,100] [1]) else bY [98,97,100] [2]
section
variable{w w':World}{pb B G:Nat}{rv:Value}{p:bW}
theorem bA.J9{lv:Value}{RL:List (Value×Ru)}(h:bA w B lv RL):lD w B lv (RL.map λx=>x.2):=λw2 h1 h2=>
 (show bA w2 B lv RL from ⟨lu h.own λg hg=>h2 g (h.own.lt g hg).1 (h.own.lt g hg).2,λx hx=>(h.sym x hx).kept h1 λb hA hlt=>⟨h2 b hA.1 hlt,hA⟩⟩).rules
theorem RF{s:Stp}(hm:aJ p.T p.N p.R=true):∃(T1 N1 x:Int) (R1:List Ru),nI p.T p.N p.R s=(T1,N1,x,R1)/\
 ((x=0/\∃T2 N2:Nat,T1=T2/\N1=N2/\aJ T2 N2 R1=true/\kC p s=⟨p.tx,T2,N2,R1⟩/\kV p s=bY [111,107] [(R1.length:Int)])\/(x≠0/\eY x/\kC p s=p/\kV p s=bY [98,97,100] [x])):=by
 unfold nI kC kV;rw[hm,Int.toNat_natCast];cases h1:bK p.N p.R s with
 |false=>exact⟨0,0,2,[],by simp,.inr ⟨by omega,⟨by omega,by omega⟩,by simp,by simp⟩⟩
 |true=>
  cases h2:stepG p s with
  |false=>
   have h3:=h2;unfold stepG at h3;exact⟨0,0,1,[],by simp[h3],.inr ⟨by omega,⟨by omega,by omega⟩,by simp,by simp⟩⟩
  |true=>
   have h3:=h2;unfold stepG at h3;exact⟨p.T,(nX p.N s:Nat),0,je p.N p.R s,by simp[h3],.inl ⟨rfl,p.T,nX p.N s,rfl,rfl,h3,by simp,by simp⟩⟩
theorem aib{s:Stp}(h:bR w pb B rv p)(hE:dR G w)(hG:G<=pb)(hm:aJ p.T p.N p.R=true):Calls Tryz.prog 75 #[.pointer (some ⟨pb,0,none⟩),.agg #[.int .i64 s.op,.int .i64 s.a,.int .i64 s.b,.int .i64 s.c]] w λe w'=>e= .returned (.string ⟨(kV p s).toArray⟩)/\(∃B' rv',bR w' pb B' rv' (kC p s)/\Bh w B rv p B' rv' (kC p s))/\But pb w w':=by
 obtain⟨ra,rc,aI⟩:=h.rules.at.1;subst aI;have hpb:=h.below;obtain⟨T1,N1,x,R1,hv,hV⟩:=RF (s:=s) hm;have HV:Hid ((x=0/\∃T2 N2:Nat,T1=T2/\N1=N2/\aJ T2 N2 R1=true/\kC p s=⟨p.tx,T2,N2,R1⟩/\kV p s=bY [111,107] [(R1.length:Int)])\/(x≠0/\eY x/\kC p s=p/\kV p s=bY [98,97,100] [x])):=hV;have HE:Hid (dR G w/\G<=pb/\pb<w.heap.size/\bR w pb B (.slice ra p.R.length rc) p):=⟨hE,hG,hpb,h⟩;obtain⟨W1,hW1⟩:=af (w.alloc (.cells #[.int .i64 s.op,.int .i64 s.a,.int .i64 s.b,.int .i64 s.c] 86));have hB1:Below w.heap.size w W1:=by rw[<-hW1];exact(ai _ _).alloc (ah _) _
 have hx1:=heap_alloc_new w (.cells #[.int .i64 s.op,.int .i64 s.a,.int .i64 s.b,.int .i64 s.c] 86);rw[hW1]at hx1;obtain⟨sb,hsb⟩:=af w.heap.size;rw[hsb]at hx1
 have HS:Hid (∀wq,Below W1.heap.size W1 wq->(wq.cell? ⟨pb,0,none⟩=some (.int .i64 p.T)/\wq.cell? ⟨pb,1,none⟩=some (.int .i64 p.N)/\wq.cell? ⟨pb,2,none⟩=some (.slice ra p.R.length rc))/\(wq.cell? ⟨sb,0,none⟩=some (.int .i64 s.op)/\wq.cell? ⟨sb,1,none⟩=some (.int .i64 s.a)/\wq.cell? ⟨sb,2,none⟩=some (.int .i64 s.b)/\wq.cell? ⟨sb,3,none⟩=some (.int .i64 s.c))/\Below w.heap.size w wq/\aG wq wq.heap.size (.slice ra p.R.length rc) p.R):=λwq hq=>by
  have hP:=(h.later hB1).later hq;have hy:=(hq.block _ (dx.1 hx1).1).trans hx1;obtain⟨q0,q1,q2,-⟩:=hP.cells;exact⟨⟨q0,q1,q2⟩,⟨ay hy rfl,ay hy rfl,ay hy rfl,ay hy rfl⟩,hB1.trans (hq.mono hB1.size),hP.rules.at⟩
 have HW:Hid (w.alloc (.cells #[.int .i64 s.op,.int .i64 s.a,.int .i64 s.b,.int .i64 s.c] 86)=W1/\w.heap.size=sb/\w.heap.size<=W1.heap.size):=⟨hW1,hsb,hB1.size⟩
 have HD:Hid (∀wq,Below W1.heap.size W1 wq->Calls Tryz.prog 27 #[.agg #[.int .i64 p.T,.int .i64 p.N,.slice ra p.R.length rc],.agg #[.int .i64 s.op,.int .i64 s.a,.int .i64 s.b,.int .i64 s.c]] wq λe w'=> ∃la lc,e= .returned (.tuple #[.agg #[.int .i64 T1,.int .i64 N1,.slice la R1.length lc],.int .i64 x])/\lD w' wq.heap.size (.slice la R1.length lc) R1/\Below wq.heap.size wq w'):=λwq hq=>by
  refine(aaf (T:=p.T) (N:=p.N) (HS.out wq hq).2.2.2 s).mono λe w' ⟨lv,RL,h1,h2,h3,h4⟩=> ?_;rw[hv]at h1 h3;obtain⟨la,lc,hlv⟩:=cO h2.own;have hi:=h2.J9;have h3':(RL.map λx=>x.2)=R1:=h3;have hl:RL.length=R1.length:=by rw[<-h3',cK]
  rw[h3',hlv,hl]at hi;exact⟨la,lc,by rw[h1,hlv,hl],hi,h4⟩
 clear h hE hx1 hB1 hW1 hv hsb hV hm
 go_enter Tryz.func75,Tryz.ntmps75
 go_upto_region 1 with fail
 rw[HW.out.1];rw[HW.out.2.1]
 go_cut [5,6] from 7 to 15 (λs5 s6 wx=> ∃(gb:Nat) (la:Option Addr) (lc:Nat),s5= .pointer (some ⟨gb,0,none⟩)/\s6= .int .i64 x/\wx.heap[gb]?=some (.cells #[.int .i64 T1,.int .i64 N1,.slice la R1.length lc] 27 (0,0))/\Below w.heap.size w wx/\lD wx w.heap.size (.slice la R1.length lc) R1)
 case first=>
  obtain⟨Wd,hWd⟩:=af W1.drew;have hBd:Below W1.heap.size W1 Wd:=by rw[<-hWd];exact(ai _ _).drew
  have S0:=HS.out Wd hBd;have dz:Hid (Below W1.heap.size W1 Wd):=hBd;clear hBd;refine mK [0,1,2,3,4] 7 11 (λwq=>(wq.cell? ⟨pb,0,none⟩=some (.int .i64 p.T)/\wq.cell? ⟨pb,1,none⟩=some (.int .i64 p.N)/\wq.cell? ⟨pb,2,none⟩=some (.slice ra p.R.length rc))/\(wq.cell? ⟨sb,0,none⟩=some (.int .i64 s.op)/\wq.cell? ⟨sb,1,none⟩=some (.int .i64 s.a)/\wq.cell? ⟨sb,2,none⟩=some (.int .i64 s.b)/\wq.cell? ⟨sb,3,none⟩=some (.int .i64 s.c))) (by kernel_rfl) (by kernel_rfl) (by rw[hWd];exact⟨S0.1,S0.2.1⟩) ?_;rw[hWd];clear hWd S0
  iterate 5
   refine aW.yT (v:= ?_) rfl (by rfl) ?_ ?_;rotate_left
   ·intro w' hSw
    obtain⟨⟨z0,z1,z2⟩,z3,z4,z5,z6⟩:=hSw
    go_simp
    try with_reducible rfl
   simp only[Act.put,eB,List.set_cons_zero,List.set_cons_succ]
  rw[aW];refine aC.two (i:=5) (i':=9) (by kernel_rfl) ⟨_,rfl,λK hK=> ?_⟩ ⟨_,rfl,λK hK=> ?_⟩
  ·have dd:=HD.out Wd dz.out
   go_simp
   refine dd.mono ?_;rintro e w2 ⟨la,lc,rfl,hr2,h2⟩;dsimp only;have hb2:=dz.out.trans (h2.mono dz.out.size);have S2:=HS.out w2 hb2;refine hK.out _ _ (λ_=>⟨S2.1,S2.2.1⟩) ?_;clear hK;refine aC.read (i:=6) (v:= .tuple #[.agg #[.int .i64 T1,.int .i64 N1,.slice la R1.length lc],.int .i64 x]) rfl (by kernel_rfl) (by rfl) (λw' _=>by unfold execOp;go_simp) ⟨S2.1,S2.2.1⟩ ?_;simp only[Act.put,eB,List.set_cons_zero,List.set_cons_succ];refine aC.read (i:=7) (v:= .agg #[.int .i64 T1,.int .i64 N1,.slice la R1.length lc]) rfl (by kernel_rfl) (by rfl) (λw' _=>by unfold execOp;go_simp) ⟨S2.1,S2.2.1⟩ ?_;simp only[Act.put,eB,List.set_cons_zero,List.set_cons_succ];refine aC.read (i:=8) (v:= .int .i64 x) rfl (by kernel_rfl) (by rfl) (λw' _=>by unfold execOp;go_simp) ⟨S2.1,S2.2.1⟩ ?_;simp only[Act.put,eB,List.set_cons_zero,List.set_cons_succ];refine aC.one (i:=9) (by kernel_rfl) ⟨_,rfl,λK hK=> ?_⟩
   go_simp
   have S3:=HS.out (w2.alloc (.cells #[.int .i64 0,.int .i64 0,.slice none 0 0] 27)) (hb2.alloc hb2.size _);refine hK.out _ _ (λ_=>⟨S3.1,S3.2.1⟩) ?_;clear hK;refine aC.one (i:=10) (by kernel_rfl) ⟨_,rfl,λK hK=> ?_⟩
   go_simp
   have S4:=HS.out (w2.alloc (.cells #[.int .i64 T1,.int .i64 N1,.slice la R1.length lc] 27)) (hb2.alloc hb2.size _);refine hK.out _ _ (λ_=>⟨S4.1,S4.2.1⟩) ?_;clear hK;refine aC.last (i:=11) (by kernel_rfl) ⟨_,rfl,λK hK=> ?_⟩
   go_simp
   refine hK.out _ _ (λh=>absurd h (by omega)) (NoPanic.normal ?_);clear hK
   go_wp2_with fail
   go_meet
   case rel=>
    refine⟨w2.heap.size,la,lc,rfl,rfl,heap_alloc_new w2 _,S4.2.2.1,?_⟩;have hz:=dz.out.size;have hz1:=HW.out.2.2;exact hr2.on (by omega) (by simp) λk _ hk=>sJ _ _ _ hk
  ·go_simp
   have hba:Below W1.heap.size W1 (Wd.alloc (.cells #[.int .i64 0,.int .i64 0,.slice none 0 0] 27)):=dz.out.alloc dz.out.size _;have S1:=HS.out _ hba;have dd:=HD.out _ hba;refine hK.out _ _ (λ_=>⟨S1.1,S1.2.1⟩) ?_;clear hK;have hxg:=heap_alloc_new Wd (.cells #[.int .i64 0,.int .i64 0,.slice none 0 0] 27);obtain⟨gb,hgb⟩:=af Wd.heap.size;obtain⟨Wa,hWa⟩:=af (Wd.alloc (.cells #[.int .i64 0,.int .i64 0,.slice none 0 0] 27));have hza:Wa.heap.size=gb+1:=by rw[<-hWa,<-hgb];simp
   rw[hWa]at hxg dd hba;rw[hgb]at hxg;rw[hWa,hgb];have HX:Hid (Wa.heap[gb]?=some (.cells #[.int .i64 0,.int .i64 0,.slice none 0 0] 27 (0,0))/\Wa.heap.size=gb+1/\Below W1.heap.size W1 Wa/\W1.heap.size<=gb):=⟨hxg,hza,hba,by have:=dz.out.size;omega⟩;clear hWa hgb hxg hza hba S1;refine aC.one (i:=5) (by kernel_rfl) ⟨_,rfl,λK hK=> ?_⟩
   go_simp
   refine dd.mono ?_;rintro e w2 ⟨la,lc,rfl,hr2,h2⟩;dsimp only;have hb2:=HX.out.2.2.1.trans (h2.mono HX.out.2.2.1.size);have S2:=HS.out w2 hb2;refine hK.out _ _ (λ_=>⟨S2.1,S2.2.1⟩) ?_;clear hK dd;refine aC.read (i:=6) (v:= .tuple #[.agg #[.int .i64 T1,.int .i64 N1,.slice la R1.length lc],.int .i64 x]) rfl (by kernel_rfl) (by rfl) (λw' _=>by unfold execOp;go_simp) ⟨S2.1,S2.2.1⟩ ?_;simp only[Act.put,eB,List.set_cons_zero,List.set_cons_succ];refine aC.read (i:=7) (v:= .agg #[.int .i64 T1,.int .i64 N1,.slice la R1.length lc]) rfl (by kernel_rfl) (by rfl) (λw' _=>by unfold execOp;go_simp) ⟨S2.1,S2.2.1⟩ ?_;simp only[Act.put,eB,List.set_cons_zero,List.set_cons_succ];refine aC.read (i:=8) (v:= .int .i64 x) rfl (by kernel_rfl) (by rfl) (λw' _=>by unfold execOp;go_simp) ⟨S2.1,S2.2.1⟩ ?_;simp only[Act.put,eB,List.set_cons_zero,List.set_cons_succ];have hxb:=(h2.block gb (by have:=HX.out.2.1;omega)).trans HX.out.1;have e0:=ay (i:=0) hxb rfl;have e1:=ay (i:=1) hxb rfl;have e2:=ay (i:=2) hxb rfl;have f0:=bO (i:=0) hxb;have f1:=bO (i:=1) hxb;have f2:=bO (i:=2) hxb;obtain⟨W5,jX⟩:=af (((w2.setCell ⟨gb,0,none⟩ (.int .i64 T1)).setCell ⟨gb,1,none⟩ (.int .i64 N1)).setCell ⟨gb,2,none⟩ (.slice la R1.length lc));have hx5:=Lib.heap_setCell_same (i:=2) (Lib.heap_setCell_same (i:=1) (Lib.heap_setCell_same (i:=0) hxb (.int .i64 T1)) (.int .i64 N1)) (.slice la R1.length lc);have hbt:But gb w2 (((w2.setCell ⟨gb,0,none⟩ (.int .i64 T1)).setCell ⟨gb,1,none⟩ (.int .i64 N1)).setCell ⟨gb,2,none⟩ (.slice la R1.length lc)):=((But.set _ _ _).trans (But.set _ _ _)).trans (But.set _ _ _);rw[jX]at hx5 hbt;have hb5:Below W1.heap.size W1 W5:=hb2.trans (hbt.below HX.out.2.2.2 hb2.size);have S5:=HS.out W5 hb5
   have H5:Hid (W5.heap[gb]?=some (.cells #[.int .i64 T1,.int .i64 N1,.slice la R1.length lc] 27 (0,0))/\Below w.heap.size w W5/\lD W5 w.heap.size (.slice la R1.length lc) R1):=by
    refine⟨hx5,S5.2.2.1,?_⟩;have hz1:=HW.out.2.2;have hz2:=HX.out.2.1;have hz3:=HX.out.2.2.2;exact hr2.on (by omega) hbt.size λk h1 h2=>hbt.block k h2 (by omega)
   have Ci:Hid (((w2.setCell ⟨gb,0,none⟩ (.int .i64 T1)).setCell ⟨gb,1,none⟩ (.int .i64 N1)).setCell ⟨gb,2,none⟩ (.slice la R1.length lc)=W5):=jX;clear hx5 hbt hb5 hxb hr2 h2 hb2 jX;refine aC.one (i:=10) (by kernel_rfl) ⟨_,rfl,λK hK=> ?_⟩
   go_simp
   rw[Ci.out];refine hK.out _ _ (λ_=>⟨S5.1,S5.2.1⟩) ?_;clear hK;refine aC.last (i:=11) (by kernel_rfl) ⟨_,rfl,λK hK=> ?_⟩
   go_simp
   refine hK.out _ _ (λh=>absurd h (by omega)) (NoPanic.normal ?_);clear hK
   go_wp2_with fail
   go_meet
   case rel=>exact⟨gb,la,lc,rfl,rfl,H5.out.1,H5.out.2.1,H5.out.2.2⟩
 case rest=>
  obtain⟨gb,la,lc,rfl,rfl,hx,hB,hR⟩:=hcut;have u0:=ay (i:=0) hx rfl;have u1:=ay (i:=1) hx rfl;have u2:=ay (i:=2) hx rfl;obtain⟨hE,hG',M9,hP⟩:=HE.out;rcases HV.out with⟨hx0,T2,N2,rfl,rfl,hm,hp1,ho1⟩|⟨hx0,hxi,hp1,ho1⟩
  ·subst hx0
   have BX:=(iD hm).2.2.2.1;have hP3:=hP.later hB;have mM:=hP3.Tp (T:=T2) (N:=N2) hR M9 hm;obtain⟨W4,dS⟩:=af (((wc.setCell ⟨pb,0,none⟩ (.int .i64 T2)).setCell ⟨pb,1,none⟩ (.int .i64 N2)).setCell ⟨pb,2,none⟩ (.slice la R1.length lc));rw[dS]at mM
   have hb4:But pb w W4:=by
    rw[<-dS];exact(But.of pb hB).trans (((But.set _ _ _).trans (But.set _ _ _)).trans (But.set _ _ _))
   have td:=Am (u:=[111,107]) (x:=(R1.length:Int)) (by simp) (hE.but hb4 hG' M9) (by have:=hb4.size;omega) ⟨by omega,by omega⟩;obtain⟨p0,p1,p2,p3⟩:=hP3.cells;have f0:=bO (i:=0) hP3.at_;have f1:=bO (i:=1) hP3.at_;have f2:=bO (i:=2) hP3.at_;obtain⟨-,-,r2,-⟩:=mM.cells;have HW4:Hid (((wc.setCell ⟨pb,0,none⟩ (.int .i64 T2)).setCell ⟨pb,1,none⟩ (.int .i64 N2)).setCell ⟨pb,2,none⟩ (.slice la R1.length lc)=W4):=dS;have H4:Hid (bR W4 pb w.heap.size (.slice la R1.length lc) ⟨p.tx,T2,N2,R1⟩/\But pb w W4/\kC p s=⟨p.tx,T2,N2,R1⟩/\kV p s=bY [111,107] [(R1.length:Int)]):=⟨mM,hb4,hp1,ho1⟩;clear hE hP hx hB hR hp1 ho1 hm hP3 mM hb4 dS
   go_upto_region 5 with fail
   rw[HW4.out];clear p0 p1 p2 p3 f0 f1 f2 u0 u1 u2 HW4
   go_wp2_with
    (go_at_call 65;refine td.mono ?_;rintro e w5 ⟨rfl,h5⟩
     have H5:Hid (Below W4.heap.size W4 w5):=h5
     clear td h5)
   go_ret;exact⟨by rw[H4.out.2.2.2];rfl,⟨w.heap.size,.slice la R1.length lc,by rw[H4.out.2.2.1];exact H4.out.1.later H5.out,.inr (ah _)⟩,H4.out.2.1.trans (But.of pb H5.out)⟩
  ·have b1:(x==0)=false:=by simpa using hx0
   have td:=Am (u:=[98,97,100]) (x:=x) (by simp) (hE.below hB (by omega)) (by have:=hB.size;omega) hxi;have H2:Hid (Below w.heap.size w wc/\bR wc pb B (.slice ra p.R.length rc) p/\kC p s=p/\kV p s=bY [98,97,100] [x]):=⟨hB,hP.later hB,hp1,ho1⟩;clear hE hP hx hB hR hx0 hxi hp1 ho1 u0 u1 u2
   go_wp2_with
    (go_at_call 65;refine td.mono ?_;rintro e w4 ⟨rfl,h4⟩
     have H4:Hid (Below wc.heap.size wc w4):=h4
     clear td h4)
   go_ret;exact⟨by rw[H2.out.2.2.2];rfl,⟨B,.slice ra p.R.length rc,by rw[H2.out.2.2.1];exact H2.out.2.1.later H4.out,.inl ⟨rfl,rfl,by rw[H2.out.2.2.1]⟩⟩,(But.of pb H2.out.1).trans (But.of pb H4.out)⟩
end
def fI(X:List Bool):Nat:=(X.filter λb=>b).length
theorem BJ(X:List Bool):fI X<=X.length:=vv _ _
theorem aag{X:List Bool}{i:Nat}(h:i<X.length):fI (X.take (i+1))=fI (X.take i)+if X.getD i false then 1 else 0:=by
 unfold fI;rw[fT h,Dt,aS];simp only[List.getD,pq h,Option.getD_some];cases X[i]<;>simp
section
variable{w:World}
theorem RG{v:Value}{X:List Bool}(h:kg w v X)(hl:X.length<=1000):Calls Tryz.prog 67 #[v] w λe w'=>e= .returned (.int .i64 (fI X:Nat))/\w'=w:=by
 obtain⟨a,c,hv⟩:=h.1;subst hv;obtain⟨n,hn⟩:=af X.length;have HX:Hid (kg w (.slice a X.length c) X/\X.length=n):=⟨h,hn⟩;rw[hn]at hl⊢;clear h hn
 go_enter Tryz.func67,Tryz.ntmps67
 go_wp2_with fail
 go_loopw [3,8] (λv3 v8 wr=> ∃i:Nat,v8= .int .i64 i/\i<=n/\v3= .int .i64 (fI (X.take i):Nat)/\wr=w) (λ_ v _=>n-(intOf v).toNat)
 case atStart=>exact⟨0,rfl,aP _,by simp[fI],rfl⟩
 case round=>
  obtain⟨i,rfl,hi,rfl,rfl⟩:=hrel;by_cases hlt:i<n
  ·have d1:decide ((i:Int)<(n:Int))=true:=aT (by omega)
   obtain⟨hb,hn⟩:=HX.out;obtain⟨g,o,c2,h1,h2⟩:=hb.2 i (by omega);obtain rfl:a=some ⟨g,o,none⟩:=by injection h1
   have hnx:=aag (X:=X) (i:=i) (by omega);have hle:fI (X.take i)<=1000:=aZ (BJ _) (by simp;omega);obtain⟨k,hk⟩:=af (fI (X.take i));rw[hk]at hnx hle⊢;have HN:Hid (fI (X.take (i+1))=k+if X.getD i false then 1 else 0):=hnx;cases hx:X.getD i false with
   |true=>
    rw[hx]at h2 HN;clear hb hn h1 hnx hk hx
    go_wp2_with fail
    go_roundw
    case rel=>exact⟨i+1,by go_num,by omega,by rw[HN.out];go_num,by first|rfl|trivial⟩
    case measure=>simp[intOf];omega
   |false=>
    rw[hx]at h2 HN;clear hb hn h1 hnx hk hx
    go_wp2_with fail
    go_roundw
    case rel=>exact⟨i+1,by go_num,by omega,by rw[HN.out];simp,by first|rfl|trivial⟩
    case measure=>simp[intOf];omega
  ·have d1:decide ((i:Int)<(n:Int))=false:=aU (by omega)
   have HE:Hid (fI (X.take i)=fI X):=by
    show _=_;rw[pG (by have:=HX.out.2;omega)]
   rw[HE.out]
   go_wp2_with fail
   go_ret;exact⟨rfl,rfl⟩
end
def zU(Y:Xs)(n:Nat):List Int:=[(fI [bit Y .null n]:Int),(fI (Y (.f n)):Int),(fI (Y (.g n)):Int)]
def nZ(Y:Xs)(n:Nat):List Int:=(List.range n).flatMap (zU Y)
def wK(p:bW)(o:List UInt8):Prop:=∃Y,qi p.T p.N p.R Y/\bit Y .gr 0=false/\o=iB (nZ Y p.N)
theorem FB(Y:Xs)(n:Nat):nZ Y (n+1)=nZ Y n++zU Y n:=by
 unfold nZ;rw[pF,qQ];simp
theorem Na(Y:Xs):∀n,(nZ Y n).length=n*3
 |0=>rfl
 |n+1=>by rw[FB,aS,Na Y n];simp[zU];omega
theorem wK.one{p:bW}{o o':List UInt8}(hm:aJ p.T p.N p.R=true)(h:wK p o)(k:wK p o'):o=o':=by
 obtain⟨Y,h1,h2,rfl⟩:=h;obtain⟨Z,k1,k2,rfl⟩:=k;have hf:=(LK hm).1;obtain⟨l1,l2,l3⟩:=Qg hf h1.dw h1.snd (h1.held h2) h1.fin;obtain⟨m1,m2,m3⟩:=Qg hf k1.dw k1.snd (k1.held k2) k1.fin
 have key:∀n,n<=p.N->nZ Y n=nZ Z n:=by
  intro n
  induction n with
  |zero=>intro _;rfl
  |succ n ih=>
   intro hn;rw[FB,FB,ih (by omega)]
   have e1:bit Y .null n=bit Z .null n:=by
    rw[Bool.eq_iff_iff];exact(l1 n (by omega)).trans (m1 n (by omega)).symm
   have f1:(Y (.f n)).length=p.T:=h1.dw (.f n) p.T (by simp[bP,show n<p.N by omega]);have f2:(Z (.f n)).length=p.T:=k1.dw (.f n) p.T (by simp[bP,show n<p.N by omega]);have g1:(Y (.g n)).length=p.T+1:=h1.dw (.g n) (p.T+1) (by simp[bP,show n<p.N by omega]);have g2:(Z (.g n)).length=p.T+1:=k1.dw (.g n) (p.T+1) (by simp[bP,show n<p.N by omega]);have e2:Y (.f n)=Z (.f n):=IJ (by omega) λi hi=>(l2 n i (by omega) (by omega)).trans (m2 n i (by omega) (by omega)).symm;have e3:Y (.g n)=Z (.g n):=IJ (by omega) λi hi=>(l3 n i (by omega) (by omega)).trans (m3 n i (by omega) (by omega)).symm;unfold zU;rw[e1,e2,e3]
 rw[key p.N (ah _)]
theorem Nb{Y:Xs}{T N:Nat}{R:List Ru}(h:qi T N R Y)(hT:T<=8):∀n,n<=N->∀x∈nZ Y n,eY x
 |0,_,x,hx=>by simp[nZ]at hx
 |n+1,hn,x,hx=>by
  rw[FB,iV]at hx;rcases hx with hx|hx
  ·exact Nb h hT n (by omega) x hx
  ·have f1:(Y (.f n)).length=T:=h.dw (.f n) T (by simp[bP,show n<N by omega])
   have g1:(Y (.g n)).length=T+1:=h.dw (.g n) (T+1) (by simp[bP,show n<N by omega]);have h1:=BJ [bit Y .null n];have h2:=BJ (Y (.f n));have h3:=BJ (Y (.g n));simp only[List.length_cons,List.length_nil]at h1;simp only[zU,iW,wS,wY]at hx;rcases hx with rfl|rfl|rfl<;>exact⟨by omega,by omega⟩
section
variable{w w':World}{pb B G:Nat}{rv:Value}{p:bW}
theorem aic(h:bR w pb B rv p)(hE:dR G w)(hG:G<=pb)(hm:aJ p.T p.N p.R=true):Calls Tryz.prog 35 #[.pointer (some ⟨pb,0,none⟩)] w λe w'=> ∃o,wK p o/\e= .returned (.string ⟨o.toArray⟩)/\Below w.heap.size w w':=by
 obtain⟨c0,c1,c2,-⟩:=h.cells;obtain⟨ra,rc,aI⟩:=h.rules.at.1;subst aI;have hpb:=h.below;obtain⟨hT,hN1,hN,_,_⟩:=iD hm;have HE:Hid (dR G w/\G<=pb/\pb<w.heap.size/\p.T<=8/\p.N<=12):=⟨hE,hG,hpb,hT,hN⟩;obtain⟨N,wL⟩:=af p.N
 have st:Calls Tryz.prog 19 #[.agg #[.int .i64 p.T,.int .i64 p.N,.slice ra p.R.length rc]] w λe w'=> ∃na nc fa fc ga gc Y,e= .returned (.tuple #[.agg #[.slice na N nc,.slice fa N fc,.slice ga N gc],.int .i64 0])/\Below w.heap.size w w'/\qi p.T p.N p.R Y/\bit Y .gr 0=false/\kg w' (.slice na N nc) (Y .null)/\oN w' (.slice fa N fc) ((List.range p.N).map λn=>Y (.f n))/\oN w' (.slice ga N gc) ((List.range p.N).map λn=>Y (.g n)):=by
  refine(Qk (T:=p.T) (N:=p.N) h.rules.at hm).mono λe w' ⟨nv,fv,gv,vf,vg,h1,h2,gb,B',Y,h3,h4,h5,h6,h7,h8⟩=> ?_;have k1:=LU h6;have k2:=Qm h6 h7;have k3:=X6 h6 h8;obtain⟨na,nc,hn⟩:=k1.1;obtain⟨fa,fc,hf⟩:=k2.1;obtain⟨ga,gc,hg⟩:=k3.1;have hl:=h4.dw .null p.N rfl;rw[hl,wL]at hn;rw[cK,qR,wL]at hf hg;subst hn hf hg;exact⟨na,nc,fa,fc,ga,gc,Y,h1,h2,h4,h5,k1,k2,k3⟩
 have HN:Hid (p.N=N):=wL;rw[wL]at c1 st;clear h hE hm wL
 go_enter Tryz.func35,Tryz.ntmps35
 go_upto_region 2 with
  (go_at_call 19;refine st.mono ?_;rintro e w2 ⟨na,nc,fa,fc,ga,gc,Y,rfl,h2,h4,h5,k1,k2,k3⟩
   clear st)
 obtain⟨q,hq⟩:=af w2.heap.size;obtain⟨W3,hW⟩:=af (w2.alloc (.cells #[.slice na N nc,.slice fa N fc,.slice ga N gc] 64));have hb3:Below w2.heap.size w2 W3:=by rw[<-hW];exact(ai _ _).alloc (ah _) _
 have hx3:=heap_alloc_new w2 (.cells #[.slice na N nc,.slice fa N fc,.slice ga N gc] 64);rw[hW,hq]at hx3;rw[hW];rw[hq];have h3:=h2.trans (hb3.mono h2.size);have zV:∀wq,Below W3.heap.size W3 wq->∀b o,b<w2.heap.size->wq.cell? ⟨b,o,none⟩=w2.cell? ⟨b,o,none⟩:=λwq hw b o hb=>pI ((hw.block b (jg hb hb3.size)).trans (hb3.block b hb))
 have HS:Hid (∀wq,Below W3.heap.size W3 wq->(wq.cell? ⟨q,0,none⟩=some (.slice na N nc)/\wq.cell? ⟨q,1,none⟩=some (.slice fa N fc)/\wq.cell? ⟨q,2,none⟩=some (.slice ga N gc))/\Below w.heap.size w wq/\kg wq (.slice na N nc) (Y .null)/\oN wq (.slice fa N fc) ((List.range N).map λn=>Y (.f n))/\oN wq (.slice ga N gc) ((List.range N).map λn=>Y (.g n))):=λwq hw=>by
  have hy:=(hw.block _ (dx.1 hx3).1).trans hx3;exact⟨⟨ay hy rfl,ay hy rfl,ay hy rfl⟩,h3.trans (hw.mono h3.size),k1.same (zV wq hw),k2.same (zV wq hw),k3.same (zV wq hw)⟩
 have HY:Hid (qi p.T N p.R Y/\bit Y .gr 0=false):=⟨h4,h5⟩;have aid:N<=12:=by have:=HE.out.2.2.2.2;have:=HN.out;omega
 obtain⟨⟨s0,s1,s2⟩,-,-⟩:=HS.out W3 (ai _ _);clear h2 h3 h4 h5 k1 k2 k3 hq hW hb3 hx3 zV
 go_wp2_with fail
 clear s0 s1 s2
 go_loopw [5,19] (λv5 v19 wr=> ∃(i:Nat) (lv:Value),lv=v5/\v19= .int .i64 i/\i<=N/\Below W3.heap.size W3 wr/\wr.ownsRow W3.heap.size 3 1 lv (i*3) ((nZ Y i).map (Value.int .i64))) (λ_ v _=>N-(intOf v).toNat)
 case atStart=>exact⟨0,_,rfl,rfl,aP _,ai _ _,ji ..⟩
 case round=>
  obtain⟨i,lv,rfl,rfl,hi,hB,hO⟩:=hrel;obtain⟨la,lc,hlv⟩:=cO hO;subst hlv;by_cases hlt:i<N
  ·have d1:decide ((i:Int)<(N:Int))=true:=aT (by omega)
   obtain⟨⟨s0,s1,s2⟩,-,hb,hf,hg⟩:=HS.out wr hB;have hnl:=HY.out.1.dw .null N rfl;obtain⟨ng,no,Qa,e1,e2⟩:=hb.2 i (by omega);obtain rfl:na=some ⟨ng,no,none⟩:=by injection e1
   obtain⟨fg,fo,XE,fr,e3,e4,zW⟩:=hf.2 i (by simpa using hlt);obtain rfl:fa=some ⟨fg,fo,none⟩:=by injection e3
   obtain⟨gg,go',gc',gr,e5,e6,hgb⟩:=hg.2 i (by simpa using hlt);obtain rfl:ga=some ⟨gg,go',none⟩:=by injection e5
   rw[show ((List.range N).map λn=>Y (.f n)).getD i []=Y (.f i) by simp[List.getD,hlt]]at zW;rw[show ((List.range N).map λn=>Y (.g n)).getD i []=Y (.g i) by simp[List.getD,hlt]]at hgb;obtain⟨Dj,Dk,hfr⟩:=zW.1;obtain⟨Dl,Dm,hgr⟩:=hgb.1;subst hfr hgr;have hfl:(Y (.f i)).length=p.T:=HY.out.1.dw (.f i) p.T (by simp[bP,hlt]);have hgl:(Y (.g i)).length=p.T+1:=HY.out.1.dw (.g i) (p.T+1) (by simp[bP,hlt]);have hT8:=HE.out.2.2.2.1;obtain⟨nb,hnb⟩:=af ((Y .null).getD i false);rw[hnb]at e2
   have HM:Hid (zU Y i=[(fI [nb]:Int),(fI (Y (.f i)):Int),(fI (Y (.g i)):Int)]):=by
    show _=_;unfold zU bit;rw[hnb]
   have gM:Hid (∀wq,Below wr.heap.size wr wq->(wq.cell? ⟨q,1,none⟩=some (.slice (some ⟨fg,fo,none⟩) N fc)/\wq.cell? ⟨q,2,none⟩=some (.slice (some ⟨gg,go',none⟩) N gc)/\wq.cell? ⟨fg,fo+i,none⟩=some (.slice Dj (Y (.f i)).length Dk)/\wq.cell? ⟨gg,go'+i,none⟩=some (.slice Dl (Y (.g i)).length Dm))/\kg wq (.slice Dj (Y (.f i)).length Dk) (Y (.f i))/\kg wq (.slice Dl (Y (.g i)).length Dm) (Y (.g i))):=λwq hq=>by
    have hc:∀b o,b<wr.heap.size->wq.cell? ⟨b,o,none⟩=wr.cell? ⟨b,o,none⟩:=λb o hb=>pI (hq.block b hb);exact⟨⟨(hc _ _ (aQ _ _ s1)).trans s1,(hc _ _ (aQ _ _ s2)).trans s2,(hc _ _ (aQ _ _ e4)).trans e4,(hc _ _ (aQ _ _ e6)).trans e6⟩,zW.same hc,hgb.same hc⟩
   have HO:Hid (wr.ownsRow W3.heap.size 3 1 (.slice la (i*3) lc) (i*3) ((nZ Y i).map (Value.int .i64))/\Below W3.heap.size W3 wr):=⟨hO,hB⟩
   have HR:Hid (q<W3.heap.size/\fg<W3.heap.size/\gg<W3.heap.size):=by
    obtain⟨⟨t0,-,-⟩,-,-,t4,t5⟩:=HS.out W3 (ai _ _);obtain⟨b1,o1,c1',r1,x1,x2,-⟩:=t4.2 i (by simpa using hlt);obtain⟨b2,o2,c2',r2,y1,y2,-⟩:=t5.2 i (by simpa using hlt);injection x1 with x1;injection x1 with x1;injection x1 with x1;injection y1 with y1;injection y1 with y1;injection y1 with y1;subst x1 y1;exact⟨aQ _ _ t0,aQ _ _ x2,aQ _ _ y2⟩
   have HL:Hid ((Y (.f i)).length<=1000/\(Y (.g i)).length<=1000):=⟨by omega,by omega⟩;clear hb hf hg e1 e3 e5 zW hgb hnl hfl hgl hnb hO hB s1 s2 e4 e6
   go_upto_region 6 with fail
   obtain⟨Wd,hWd⟩:=af wr.drew;have hBd:Below wr.heap.size wr Wd:=by rw[<-hWd];exact(ai _ _).drew
   have S0:=(gM.out Wd hBd).1;obtain⟨Wb,RH⟩:=af (Wd.alloc (.cells #[.bool nb] 4));have hBb:Below wr.heap.size wr Wb:=by rw[<-RH];exact hBd.alloc hBd.size _
   have hxb:=heap_alloc_new Wd (.cells #[.bool nb] 4);rw[RH]at hxb;obtain⟨S1,hf1,hg1⟩:=gM.out Wb hBb
   have n1:=RG (w:=Wb) (v:= .slice (some ⟨Wd.heap.size,0,none⟩) 1 1) (X:=[nb]) ⟨⟨_,_,rfl⟩,λj hj=>by
    have:j=0:=by simpa using hj
    subst this
    exact⟨Wd.heap.size,0,1,rfl,ay hxb rfl⟩⟩ (by simp)
   have n2:=RG hf1 HL.out.1;have n3:=RG hg1 HL.out.2;obtain⟨k1,hk1⟩:=af (fI [nb]);obtain⟨k2,hk2⟩:=af (fI (Y (.f i)));obtain⟨k3,hk3⟩:=af (fI (Y (.g i)));rw[hk1]at n1 HM;rw[hk2]at n2 HM;rw[hk3]at n3 HM;obtain⟨Wc,hWc⟩:=af (Wb.alloc (.cells #[.int .i64 (k1:Int),.int .i64 (k2:Int),.int .i64 (k3:Int)] 3));have mX:Below wr.heap.size wr Wc:=by rw[<-hWc];exact hBb.alloc hBb.size _
   have hxc:=heap_alloc_new Wb (.cells #[.int .i64 (k1:Int),.int .i64 (k2:Int),.int .i64 (k3:Int)] 3);rw[hWc]at hxc;have hnw:=jh hxc;have S2:=(gM.out Wc mX).1;have RJ:=lu HO.out.1 λg hg=>mX.block g (HO.out.1.lt g hg).2;have hbc:=aZ HO.out.2.size mX.size;have HC:Hid (Below W3.heap.size W3 Wc/\Below wr.heap.size wr Wc):=⟨HO.out.2.trans (mX.mono HO.out.2.size),mX⟩;have m1:i*3+3<=maxLen:=by unfold maxLen;omega
   have m2:(i*3+3)*8<=140737488355328:=by omega
   obtain⟨i5,hi5,kW,kX,lY⟩:=fK Tryz.infoIntD;clear hBd hBb hxb hf1 hg1 hk1 hk2 hk3 mX hxc;refine mK [0,1,4,5,6,7,8,10,11,12,13,14] 7 18 (λwq=>wq.cell? ⟨q,1,none⟩=some (.slice (some ⟨fg,fo,none⟩) N fc)/\wq.cell? ⟨q,2,none⟩=some (.slice (some ⟨gg,go',none⟩) N gc)/\wq.cell? ⟨fg,fo+i,none⟩=some (.slice Dj (Y (.f i)).length Dk)/\wq.cell? ⟨gg,go'+i,none⟩=some (.slice Dl (Y (.g i)).length Dm)) (by kernel_rfl) (by kernel_rfl) (by rw[hWd];exact S0) ?_;rw[hWd];clear hWd S0;have j0:(0:Int)<=(i:Int):=aF _;have j1:(i:Int)<(N:Int):=by omega
   iterate 12
    refine aW.yT (v:= ?_) rfl (by rfl) ?_ ?_;rotate_left
    ·intro w' hSw
     obtain⟨z0,z1,z2,z3⟩:=hSw
     go_simp
     try with_reducible rfl
    simp only[Act.put,eB,List.set_cons_zero,List.set_cons_succ]
   rw[aW];refine aC.one (i:=2) (by kernel_rfl) ⟨_,rfl,λK hK=> ?_⟩
   go_simp
   refine hK.out _ _ (λ_=>S1) ?_;clear hK RH;refine aC.one (i:=3) (by kernel_rfl) ⟨_,rfl,λK hK=> ?_⟩
   go_simp
   refine n1.mono ?_;rintro e w4 ⟨rfl,h4⟩;obtain rfl:Wb=w4:=h4.symm;dsimp only;refine hK.out _ _ (λ_=>S1) ?_;clear hK n1;refine aC.one (i:=9) (by kernel_rfl) ⟨_,rfl,λK hK=> ?_⟩
   go_simp
   refine n2.mono ?_;rintro e w4 ⟨rfl,h4⟩;obtain rfl:Wb=w4:=h4.symm;dsimp only;refine hK.out _ _ (λ_=>S1) ?_;clear hK n2;refine aC.one (i:=15) (by kernel_rfl) ⟨_,rfl,λK hK=> ?_⟩
   go_simp
   refine n3.mono ?_;rintro e w4 ⟨rfl,h4⟩;obtain rfl:Wb=w4:=h4.symm;dsimp only;refine hK.out _ _ (λ_=>S1) ?_;clear hK n3;refine aC.one (i:=16) (by kernel_rfl) ⟨_,rfl,λK hK=> ?_⟩
   go_simp
   refine hK.out _ _ (λ_=>S2) ?_;clear hK hWc;refine aC.one (i:=17) (by kernel_rfl) ⟨_,rfl,λK hK=> ?_⟩;rw[au (by rfl)]
   refine wp_append_lies _ (.tmp 24) (.tmp 40) _ rfl W3.heap.size 3 i5 _ 1 8 Tryz.underlying39 hi5 kW kX lY rfl (by omega) (.slice la (i*3) lc) (i*3) ((nZ Y i).map (Value.int .i64)) rfl RJ
    ⟨Wb.heap.size,0,none⟩ 3 3 [.int .i64 (k1:Int),.int .i64 (k2:Int),.int .i64 (k3:Int)] rfl rfl hnw (by simp[Value.oneCell']) (by omega) m1 m2 hbc _ rfl ?_
   intro g9 pJ w9 kG iX qX sQ;have H9:Hid (w9.ownsRow W3.heap.size 3 1 (.slice (some ⟨g9,0,none⟩) (i*3+3) pJ) (i*3+3) ((nZ Y i).map (Value.int .i64)++[.int .i64 (k1:Int),.int .i64 (k2:Int),.int .i64 (k3:Int)])/\Below W3.heap.size W3 w9):=⟨kG,HC.out.1.grown iX hbc λk hk=>(RJ.lt k hk).1⟩;have hlow:∀b o,b<W3.heap.size->w9.cell? ⟨b,o,none⟩=wr.cell? ⟨b,o,none⟩:=λb o hb=>(pI (H9.out.2.block b hb)).trans (pI (HO.out.2.block b hb)).symm;obtain⟨⟨y0,y1,y2,y3⟩,-,-⟩:=gM.out wr (ai _ _);refine hK.out _ _ (λ_=>⟨(hlow _ _ HR.out.1).trans y0,(hlow _ _ HR.out.1).trans y1,(hlow _ _ HR.out.2.1).trans y2,(hlow _ _ HR.out.2.2).trans y3⟩) ?_;clear hK hlow y0 y1 y2 y3 kG iX qX sQ RJ hbc hnw hi5 kW kX lY m1 m2 S1 S2;simp only[Act.put,eB,List.set_cons_zero,List.set_cons_succ];refine aC.last (i:=18) (by kernel_rfl) ⟨_,rfl,λK hK=> ?_⟩
   go_simp
   refine hK.out _ _ (λh=>absurd h (by omega)) (NoPanic.normal ?_);clear hK
   go_wp2_with fail
   go_roundw
   case rel=>
    refine⟨i+1,_,rfl,by go_num,by omega,H9.out.2,?_⟩;have:=H9.out.1;rw[FB,HM.out,fD,show (i+1)*3=i*3+3 by omega];exact this
   case measure=>simp[intOf];omega
  ·have d1:decide ((i:Int)<(N:Int))=false:=aU (by omega)
   obtain rfl:i=N:=by omega
   obtain⟨-,hbw,-⟩:=HS.out wr hB;have dg:=F3 (HE.out.1.below hbw (by have:=HE.out;omega)) (by have:=hbw.size;have:=HE.out;omega) (NP hO) (by rw[Na];omega) (Nb HY.out.1 HE.out.2.2.2.1 i (ah _));have HO:Hid (wK p (iB (nZ Y i))/\Below w.heap.size w wr):=⟨⟨Y,by rw[HN.out];exact HY.out.1,HY.out.2,by rw[HN.out]⟩,hbw⟩;clear hO hB hbw
   go_wp2_with
    (go_at_call 68;refine dg.mono ?_;rintro e w4 ⟨rfl,h4⟩
     have H4:Hid (Below w.heap.size w w4):=HO.out.2.trans (h4.mono HO.out.2.size)
     clear dg h4)
   go_ret;exact⟨_,HO.out.1,rfl,H4.out⟩
end
def jN(p:bW)(X:List UInt8->Prop)(p':bW)(o:List UInt8):Prop:=p'=p/\if p.N=0 then o=[110,111,110,101] else X o
def dN(p:bW)(l:List UInt8)(p':bW)(o:List UInt8):Prop:=
 if Lib.hasPrefix l [61,32]=true then p'={ p with tx:=p.tx++(Lib.trimPrefix l [61,32]++[10]) }/\o=bY [111,107] [((p.tx++(Lib.trimPrefix l [61,32]++[10])).length:Int)]
 else if l=[102,114,101,115,104] then p'={ p with tx:=[] }/\o=[111,107]
 else if l=[116,97,107,101] then p'=vG p/\o=xC p
 else if l=[115,101,116,115] then jN p (wK p) p' o
 else if l=[115,104,111,114,116] then jN p (λo=> ∃O,nM p.N p.R O/\o=iB O) p' o
 else if l=[116,97,98,108,101] then jN p (uh p) p' o
 else if l=[115,104,111,119] then jN p (λo=>o=iB [((nP p.T p.N p.R).length:Int)]) p' o
 else match lZ l with
  |none=>p'=p/\o=[63]
  |some (u,A)=>
   if u=[104,97,115] then jN p (kS p A) p' o
   else if u=[112,97,114,115,101] then jN p (nC p A) p' o
   else if u=[115,116,101,112]/\A.length=4 then (if p.N=0 then p'=p/\o=[110,111,110,101] else p'=kC p ⟨A.getD 0 0,A.getD 1 0,A.getD 2 0,A.getD 3 0⟩/\o=kV p ⟨A.getD 0 0,A.getD 1 0,A.getD 2 0,A.getD 3 0⟩)
   else p'=p/\o=[63]
def iP(w:World)(v:Value)(pb B:Nat)(rv:Value)(p:bW)(Q:bW->List UInt8->Prop):Prop:=∃dn bound caps args,v= .func (.func dn) bound caps/\bound++caps=args/\(∀args w,(callFunc dn args).run Tryz.prog w= .ok (.enter dn args) w)/\
 Calls Tryz.prog dn args w λe w'=> ∃o p' B' rv',Q p' o/\e= .returned (.string ⟨o.toArray⟩)/\bR w' pb B' rv' p'/\But pb w w'/\Bh w B rv p B' rv' p'
theorem iP.mono{w:World}{v rv:Value}{pb B:Nat}{p:bW}{Q Q':bW->List UInt8->Prop}(h:iP w v pb B rv p Q)(hQ:∀p o,Q p o->Q' p o):iP w v pb B rv p Q':=by
 obtain⟨dn,bound,caps,args,h1,h2,h3,h4⟩:=h;exact⟨dn,bound,caps,args,h1,h2,h3,h4.mono λ_ _ ⟨o,p',B',rv',k1,k2⟩=>⟨o,p',B',rv',hQ _ _ k1,k2⟩⟩
section
variable{w w':World}{pb B G:Nat}{rv:Value}{p:bW}
theorem aie{dn:Nat}{X:List UInt8->Prop}(h:bR w pb B rv p)(hd:∀args w,(callFunc dn args).run Tryz.prog w= .ok (.enter dn args) w)(hc:Calls Tryz.prog dn #[.pointer (some ⟨pb,0,none⟩)] w λe w'=> ∃o,X o/\e= .returned (.string ⟨o.toArray⟩)/\Below w.heap.size w w'):
 iP w (.func (.func dn) #[.pointer (some ⟨pb,0,none⟩)] #[]) pb B rv p λp' o=>p'=p/\X o:=
 ⟨dn,_,_,_,rfl,rfl,hd,hc.mono λ_ _ ⟨o,h1,h2,h3⟩=>⟨o,p,B,rv,⟨rfl,h1⟩,h2,h.later h3,But.of pb h3,.inl ⟨rfl,rfl,rfl⟩⟩⟩
theorem Nc(h:bR w pb B rv p):iP w (.func (.func 66) #[] #[]) pb B rv p λp' o=>p'=p/\o=[110,111,110,101]:=by
 refine⟨_,_,_,_,rfl,rfl,λargs w=>by simp[callFunc,Tryz.func66,Tryz.f66 ],?_⟩
 go_enter Tryz.func66,Tryz.ntmps66
 go_wp2_with fail
 go_ret;exact⟨_,p,B,rv,⟨rfl,rfl⟩,rfl,h,But.refl _ _,.inl ⟨rfl,rfl,rfl⟩⟩
theorem RN(h:bR w pb B rv p):iP w (.func (.func 76) #[] #[]) pb B rv p λp' o=>p'=p/\o=[63]:=by
 refine⟨_,_,_,_,rfl,rfl,λargs w=>by simp[callFunc,Tryz.func76,Tryz.f76 ],?_⟩
 go_enter Tryz.func76,Tryz.ntmps76
 go_wp2_with fail
 go_ret;exact⟨_,p,B,rv,⟨rfl,rfl⟩,rfl,h,But.refl _ _,.inl ⟨rfl,rfl,rfl⟩⟩
theorem Nf{f:Fn}{bs cs:Array Value}(h:bR w pb B rv p)(hN:p.N=0):Calls Tryz.prog 34 #[.pointer (some ⟨pb,0,none⟩),.func f bs cs] w λe w'=>e= .returned (.func (.func 66) #[] #[])/\w'=w:=by
 obtain⟨-,c1,-,-⟩:=h.cells;rw[hN]at c1;clear h hN
 go_enter Tryz.func34,Tryz.ntmps34
 go_wp2_with fail
 go_ret;exact⟨rfl,rfl⟩
theorem Ng{f:Fn}{bs cs:Array Value}(h:bR w pb B rv p)(hN:p.N≠0):Calls Tryz.prog 34 #[.pointer (some ⟨pb,0,none⟩),.func f bs cs] w λe w'=>e= .returned (.func f bs cs)/\w'=w:=by
 obtain⟨-,c1,-,-⟩:=h.cells;have b1:((p.N:Int)==0)=false:=by simpa using hN
 clear h hN
 go_enter Tryz.func34,Tryz.ntmps34
 go_wp2_with fail
 go_ret;exact⟨rfl,rfl⟩
theorem aif{b2 b5:Nat}{bs:List UInt8}(h:bR w pb B rv p)(hE:dR G w)(hG:G<=pb)(hl:p.tx.length+bs.length<=4611686018427387904)(h2:w.heap[b2]?=some (.cells #[.pointer (some ⟨pb,0,none⟩)] 87 (0,0)))(h5:w.heap[b5]?=some (.cells #[.string ⟨bs.toArray⟩] 9 (0,0))):
 iP w (.func (.func 30) #[] #[.pointer (some ⟨b2,0,none⟩),.pointer (some ⟨b5,0,none⟩)]) pb B rv p λp' o=>p'={ p with tx:=p.tx++(bs++[10]) }/\o=bY [111,107] [((p.tx++(bs++[10])).length:Int)]:=by
 refine⟨_,_,_,_,rfl,rfl,λargs w=>by simp[callFunc,Tryz.func30,Tryz.f30 ],?_⟩;have pt:=abw h hE hG hl;obtain⟨o,ho⟩:=af (bY [111,107] [((p.tx++(bs++[10])).length:Int)]);rw[ho]at pt;have HO:Hid (o=bY [111,107] [((p.tx++(bs++[10])).length:Int)]):=ho.symm;have c2:=ay (i:=0) h2 rfl;have c5:=ay (i:=0) h5 rfl;clear h hE h2 h5 ho
 go_enter Tryz.func30,Tryz.ntmps30
 go_wp2_with
  (go_at_call 31;refine pt.mono ?_;rintro e w3 ⟨rfl,h3,h4⟩
   have H3:Hid (bR w3 pb B rv { p with tx:=p.tx++(bs++[10]) }/\But pb w w3):=⟨h3,h4⟩
   clear pt h3 h4)
 go_ret;exact⟨o,_,B,rv,⟨rfl,HO.out⟩,rfl,H3.out.1,H3.out.2,.inl ⟨rfl,rfl,rfl⟩⟩
theorem aii{b2 b6:Nat}{ta:Option Addr}{tc:Nat}{tok:List Int}(h:bR w pb B rv p)(hE:dR G w)(hG:G<=pb)(hm:aJ p.T p.N p.R=true)(ht:aY w w.heap.size (.slice ta tok.length tc) tok)(h2:w.heap[b2]?=some (.cells #[.pointer (some ⟨pb,0,none⟩)] 87 (0,0)))(h6:w.heap[b6]?=some (.cells #[.slice ta tok.length tc] 39 (0,0))):
 iP w (.func (.func 70) #[] #[.pointer (some ⟨b2,0,none⟩),.pointer (some ⟨b6,0,none⟩)]) pb B rv p λp' o=>p'=p/\kS p tok o:=by
 refine⟨_,_,_,_,rfl,rfl,λargs w=>by simp[callFunc,Tryz.func70,Tryz.f70 ],?_⟩;have pt:=agz h hE hG hm ht;have c2:=ay (i:=0) h2 rfl;have c6:=ay (i:=0) h6 rfl;have HP:Hid (bR w pb B rv p):=h;clear h hE h2 h6 ht hm
 go_enter Tryz.func70,Tryz.ntmps70
 go_wp2_with
  (go_at_call 71;refine pt.mono ?_;rintro e w3 ⟨o,ho,rfl,h3⟩
   have H3:Hid (kS p tok o/\Below w.heap.size w w3):=⟨ho,h3⟩
   clear pt h3 ho)
 go_ret;exact⟨o,p,B,rv,⟨rfl,H3.out.1⟩,rfl,HP.out.later H3.out.2,But.of pb H3.out.2,.inl ⟨rfl,rfl,rfl⟩⟩
theorem aij{b2 b6:Nat}{ta:Option Addr}{tc:Nat}{tok:List Int}(h:bR w pb B rv p)(hE:dR G w)(hG:G<=pb)(hm:aJ p.T p.N p.R=true)(ht:aY w w.heap.size (.slice ta tok.length tc) tok)(h2:w.heap[b2]?=some (.cells #[.pointer (some ⟨pb,0,none⟩)] 87 (0,0)))(h6:w.heap[b6]?=some (.cells #[.slice ta tok.length tc] 39 (0,0))):
 iP w (.func (.func 72) #[] #[.pointer (some ⟨b2,0,none⟩),.pointer (some ⟨b6,0,none⟩)]) pb B rv p λp' o=>p'=p/\nC p tok o:=by
 refine⟨_,_,_,_,rfl,rfl,λargs w=>by simp[callFunc,Tryz.func72,Tryz.f72 ],?_⟩;have pt:=agA h hE hG hm ht;have c2:=ay (i:=0) h2 rfl;have c6:=ay (i:=0) h6 rfl;have HP:Hid (bR w pb B rv p):=h;clear h hE h2 h6 ht hm
 go_enter Tryz.func72,Tryz.ntmps72
 go_wp2_with
  (go_at_call 73;refine pt.mono ?_;rintro e w3 ⟨o,ho,rfl,h3⟩
   have H3:Hid (nC p tok o/\Below w.heap.size w w3):=⟨ho,h3⟩
   clear pt h3 ho)
 go_ret;exact⟨o,p,B,rv,⟨rfl,H3.out.1⟩,rfl,HP.out.later H3.out.2,But.of pb H3.out.2,.inl ⟨rfl,rfl,rfl⟩⟩
theorem aik{b2 b8:Nat}{s:Stp}(h:bR w pb B rv p)(hE:dR G w)(hG:G<=pb)(hm:aJ p.T p.N p.R=true)(h2:w.heap[b2]?=some (.cells #[.pointer (some ⟨pb,0,none⟩)] 87 (0,0)))(h8:w.heap[b8]?=some (.cells #[.int .i64 s.op,.int .i64 s.a,.int .i64 s.b,.int .i64 s.c] 86 (0,0))):
 iP w (.func (.func 74) #[] #[.pointer (some ⟨b2,0,none⟩),.pointer (some ⟨b8,0,none⟩)]) pb B rv p λp' o=>p'=kC p s/\o=kV p s:=by
 refine⟨_,_,_,_,rfl,rfl,λargs w=>by simp[callFunc,Tryz.func74,Tryz.f74 ],?_⟩;have pt:=aib (s:=s) h hE hG hm;obtain⟨o,ho⟩:=af (kV p s);rw[ho]at pt;have HO:Hid (o=kV p s):=ho.symm;have c2:=ay (i:=0) h2 rfl;have c8:=ay (i:=0) h8 rfl;have c9:=ay (i:=1) h8 rfl;have c10:=ay (i:=2) h8 rfl;have c11:=ay (i:=3) h8 rfl;clear h hE h2 h8 hm ho
 go_enter Tryz.func74,Tryz.ntmps74
 go_wp2_with
  (go_at_call 75;refine pt.mono ?_;rintro e w3 ⟨rfl,⟨B',rv',h3,h5⟩,h4⟩
   have H3:Hid (bR w3 pb B' rv' (kC p s)/\But pb w w3/\Bh w B rv p B' rv' (kC p s)):=⟨h3,h4,h5⟩
   clear pt h3 h4 h5)
 go_ret;exact⟨o,_,B',rv',⟨rfl,HO.out⟩,rfl,H3.out⟩
end
def Gd(p:bW):Prop:=p.N=0\/aJ p.T p.N p.R=true
section
variable{p p' q':bW}{l o o':List UInt8}
theorem zX{u:List UInt8}{x:Int}(hu:u.length<=10)(hx:eY x):(bY u [x]).length<=20000:=by
 have:=Ak (D:=[x]) λy hy=>by rw[gG.1 hy];exact hx
 unfold bY;simp only[aS,List.length_cons,List.length_nil]at this⊢;omega
theorem jN.one{X:List UInt8->Prop}(hX:p.N≠0->∀o o',X o->X o'->o=o')(h:jN p X p' o)(k:jN p X q' o'):p'=q'/\o=o':=by
 obtain⟨h1,h2⟩:=h;obtain⟨k1,k2⟩:=k;by_cases hN:p.N=0
 ·rw[au hN]at h2 k2;exact⟨h1.trans k1.symm,h2.trans k2.symm⟩
 ·rw[aj hN]at h2 k2;exact⟨h1.trans k1.symm,hX hN _ _ h2 k2⟩
theorem jN.short{X:List UInt8->Prop}{n:Nat}(hX:p.N≠0->∀o,X o->o.length<=20000)(h:jN p X p' o):o.length<=20000/\p'.tx.length<=p.tx.length+n+1:=by
 obtain⟨h1,h2⟩:=h;refine⟨?_,by rw[h1];omega⟩;by_cases hN:p.N=0
 ·rw[au hN]at h2;rw[h2];simp
 ·rw[aj hN]at h2;exact hX hN _ h2
theorem ail(hg:Gd p)(h:dN p l p' o)(k:dN p l q' o'):p'=q'/\o=o':=by
 have hm:p.N≠0->aJ p.T p.N p.R=true:=hg.resolve_left;have both:∀{a:bW} {b:List UInt8},p'=a/\o=b->q'=a/\o'=b->p'=q'/\o=o':=λh k=>⟨h.1.trans k.1.symm,h.2.trans k.2.symm⟩;unfold dN at h k;by_cases g0:Lib.hasPrefix l [61,32]=true
 ·rw[au g0]at h k
  exact both h k
 rw[aj g0]at h k;by_cases g1:l=[102,114,101,115,104]
 ·rw[au g1]at h k
  exact both h k
 rw[aj g1]at h k;by_cases g2:l=[116,97,107,101]
 ·rw[au g2]at h k
  exact both h k
 rw[aj g2]at h k;by_cases g3:l=[115,101,116,115]
 ·rw[au g3]at h k
  exact jN.one (λhN _ _ a b=>wK.one (hm hN) a b) h k
 rw[aj g3]at h k;by_cases g4:l=[115,104,111,114,116]
 ·rw[au g4]at h k
  exact jN.one (λ_ _ _ ⟨O,a,b⟩ ⟨O',a',b'⟩=>by rw[b,b',a.one a']) h k
 rw[aj g4]at h k;by_cases g5:l=[116,97,98,108,101]
 ·rw[au g5]at h k
  exact jN.one (λ_ _ _ a b=>uh.one a b) h k
 rw[aj g5]at h k;by_cases g6:l=[115,104,111,119]
 ·rw[au g6]at h k
  exact jN.one (λ_ _ _ a b=>a.trans b.symm) h k
 rw[aj g6]at h k;cases hr:lZ l with
 |none=>rw[hr]at h k;exact both h k
 |some uA=>
  obtain⟨u,A⟩:=uA;rw[hr]at h k;simp only at h k;by_cases g7:u=[104,97,115]
  ·rw[au g7]at h k
   exact jN.one (λ_ _ _ a b=>kS.one a b) h k
  rw[aj g7]at h k;by_cases g8:u=[112,97,114,115,101]
  ·rw[au g8]at h k
   exact jN.one (λ_ _ _ a b=>nC.one a b) h k
  rw[aj g8]at h k;by_cases g9:u=[115,116,101,112]/\A.length=4
  ·rw[au g9]at h k
   by_cases g10:p.N=0
   ·rw[au g10]at h k
    exact both h k
   ·rw[aj g10]at h k
    exact both h k
  ·rw[aj g9]at h k;exact both h k
theorem aim{s:Stp}(hm:aJ p.T p.N p.R=true):(kV p s).length<=20000/\(kC p s).tx=p.tx:=by
 obtain⟨T1,N1,x,R1,-,h|h⟩:=RF (s:=s) hm
 ·obtain⟨-,T2,N2,-,-,h1,h2,h3⟩:=h
  obtain⟨-,-,-,h4,-⟩:=iD h1;rw[h2,h3];exact⟨zX (by simp) ⟨by omega,by omega⟩,rfl⟩
 ·obtain⟨-,h1,h2,h3⟩:=h
  rw[h2,h3];exact⟨zX (by simp) h1,rfl⟩
theorem ain(hl:p.tx.length<=4611686018427387904):(xC p).length<=20000/\(vG p).tx=p.tx:=by
 unfold xC vG;have hk:=NV p.tx;cases hok:uI p.tx with
 |false=>exact⟨zX (by simp) ⟨by omega,by omega⟩,rfl⟩
 |true=>
  unfold uI at hok;rw[bG]at hok;obtain⟨-,-,-,h4,-⟩:=iD hok.2;exact⟨zX (by simp) ⟨by omega,by omega⟩,rfl⟩
theorem aah(hg:Gd p)(hl:p.tx.length+l.length<=4611686018427387904)(h:dN p l p' o):o.length<=20000/\p'.tx.length<=p.tx.length+l.length+1:=by
 have hm:p.N≠0->aJ p.T p.N p.R=true:=hg.resolve_left;have what:p'=p/\o=[63]->o.length<=20000/\p'.tx.length<=p.tx.length+l.length+1:=λh=>by rw[h.1,h.2];exact⟨by simp,by omega⟩
 have hll:(Lib.trimPrefix l [61,32]).length<=l.length:=by unfold Lib.trimPrefix;split<;>simp
 unfold dN at h;by_cases g0:Lib.hasPrefix l [61,32]=true
 ·rw[au g0]at h
  rw[h.1,h.2];have e:(p.tx++(Lib.trimPrefix l [61,32]++[10])).length<=p.tx.length+l.length+1:=by simp only[aS,List.length_cons,List.length_nil];omega
  exact⟨zX (by simp) ⟨by omega,by omega⟩,e⟩
 rw[aj g0]at h;by_cases g1:l=[102,114,101,115,104]
 ·rw[au g1]at h
  rw[h.1,h.2];exact⟨by simp,by simp⟩
 rw[aj g1]at h;by_cases g2:l=[116,97,107,101]
 ·rw[au g2]at h
  rw[h.1,h.2];have:=ain (p:=p) (by omega);exact⟨this.1,by rw[this.2];omega⟩
 rw[aj g2]at h;by_cases g3:l=[115,101,116,115]
 ·rw[au g3]at h
  refine h.short λhN o ⟨Y,h1,_,h3⟩=> ?_;obtain⟨hT,_,hN',_,_⟩:=iD (hm hN);have:=Ak (Nb h1 hT p.N (ah _));rw[Na]at this;rw[h3];omega
 rw[aj g3]at h;by_cases g4:l=[115,104,111,114,116]
 ·rw[au g4]at h
  refine h.short λhN o ⟨O,h1,h3⟩=> ?_;obtain⟨hT,_,hN',_,_⟩:=iD (hm hN);have:=Ak (Oh h1);have:=h1.len;rw[h3];omega
 rw[aj g4]at h;by_cases g5:l=[116,97,98,108,101]
 ·rw[au g5]at h
  refine h.short λhN o h1=> ?_;rcases h1 with⟨_,rfl⟩|⟨K,_,hK,rfl⟩
  ·exact zX (by simp) ⟨by omega,by omega⟩
  ·have hc:=QU (hm hN) hK
   have:=Ak (D:=[(K:Int),gZ (dF p.T p.N p.R K)]) λx hx=>by
    rcases iW.1 hx with rfl|hx
    ·exact⟨by omega,by omega⟩
    ·rw[gG.1 hx];exact hc
   simp only[List.length_cons,List.length_nil]at this;omega
 rw[aj g5]at h;by_cases g6:l=[115,104,111,119]
 ·rw[au g6]at h
  refine h.short λhN o h1=> ?_
  have hlen:(nP p.T p.N p.R).length<=4611686018427387904:=by
   have hl:=Kj (hm hN);have h1:=Kk hl;have h2:=hl.part p.R.length;rw[gH]at h2;unfold nP;rw[aS];omega
  have:=Ak (D:=[((nP p.T p.N p.R).length:Int)]) λx hx=>by rw[gG.1 hx];exact⟨by omega,by omega⟩
  simp only[List.length_cons,List.length_nil]at this;rw[h1];omega
 rw[aj g6]at h;cases hr:lZ l with
 |none=>rw[hr]at h;exact what h
 |some uA=>
  obtain⟨u,A⟩:=uA;rw[hr]at h;simp only at h;by_cases g7:u=[104,97,115]
  ·rw[au g7]at h
   refine h.short λhN o h1=> ?_;rcases h1 with⟨_,rfl⟩|⟨_,⟨_,rfl⟩|⟨_,rfl⟩⟩
   ·exact zX (by simp) (Mq _ _ _ _)
   ·simp
   ·simp
  rw[aj g7]at h;by_cases g8:u=[112,97,114,115,101]
  ·rw[au g8]at h
   refine h.short λhN o ⟨a,h1,h2⟩=> ?_;obtain⟨k1,k2,k3,k4⟩:=QS (hm hN) h1;rw[h2];unfold qm;split
   ·exact zX (by simp) k1
   split
   ·exact zX (by simp) k2
   ·have:=Ak k4
    unfold bY;simp only[aS,List.length_cons,List.length_nil];omega
  rw[aj g8]at h;by_cases g9:u=[115,116,101,112]/\A.length=4
  ·rw[au g9]at h
   by_cases g10:p.N=0
   ·rw[au g10]at h
    rw[h.1,h.2];exact⟨by simp,by omega⟩
   ·rw[aj g10]at h
    have:=aim (s:=⟨A.getD 0 0,A.getD 1 0,A.getD 2 0,A.getD 3 0⟩) (hm g10);rw[h.1,h.2];exact⟨this.1,by rw[this.2];omega⟩
  ·rw[aj g9]at h;exact what h
end
def jf:Nat->List UInt8->bW->List UInt8->Prop
 |0,_,_,o=>o=[]
 |n+1,s,p,o=>(s=[]/\o=[])\/(s≠[]/\∃p' a o',dN p (l5 10 s).1 p' a/\Gd p'/\jf n (l5 10 s).2.1 p' o'/\o=(a++[10])++o')
theorem jf.one:∀{n:Nat} {s:List UInt8} {p:bW} {o o':List UInt8},Gd p->jf n s p o->jf n s p o'->o=o'
 |0,_,_,_,_,_,h,k=>by rw[jf]at h k;rw[h,k]
 |n+1,s,p,o,o',hg,h,k=>by
  rw[jf]at h k;rcases h with h|⟨h0,p1,a1,o1,h1,h2,h3,h4⟩<;>rcases k with k|⟨k0,p2,a2,o2,k1,k2,k3,k4⟩
  ·rw[h.2,k.2]
  ·exact absurd h.1 k0
  ·exact absurd k.1 h0
  ·obtain⟨e,e'⟩:=ail hg h1 k1
   subst e e';rw[h4,k4,jf.one h2 h3 k3]
def splitB(c:UInt8):List UInt8->List (List UInt8)
 | []=>[[]]
 |b::l=>if b==c then []::splitB c l else ((b::(splitB c l).headD [])::(splitB c l).tail)
theorem JD(c:UInt8):∀s:List UInt8,splitB c s=(match jF c s with|none=>[s]|some (a,r)=>a::splitB c r)
 | []=>rfl
 |b::l=>by
  rw[splitB,jF];by_cases h:b==c
  ·rw[au h,au h]
  ·rw[aj h,aj h,JD c l]
   cases jF c l<;>rfl
theorem RO(c:UInt8)(s:List UInt8):splitB c s≠[]:=by
 rw[JD];split<;>simp
def oh(s:List UInt8):List (List UInt8):=if (splitB 10 s).getLastD []=[] then (splitB 10 s).dropLast else splitB 10 s
theorem aio:oh []=[]:=rfl
theorem aai{s:List UInt8}(h:s≠[]):oh s=(l5 10 s).1::oh (l5 10 s).2.1:=by
 unfold oh l5;rw[JD 10 s];cases hc:jF 10 s with
 |none=>simp[h,splitB]
 |some p=>
  obtain⟨a,r⟩:=p;have hn:=RO 10 r;simp only
  obtain⟨x,L,hx⟩:∃x L,splitB 10 r=x::L:=by
   cases h:splitB 10 r with
   |nil=>exact absurd h hn
   |cons x L=>exact⟨x,L,rfl⟩
  rw[hx];simp only[List.getLastD_cons,List.dropLast_cons_cons];split<;>rfl
def lm:List (List UInt8)->Option (List Int)
 | []=>some []
 |u::P=>if iC u=true then (lm P).map λA=>kH u::A else none
def FC(A F:List Int):List Int:=F.foldl qA A
theorem aaj:∀(f:Nat) (r:List UInt8) (A:List Int),r.length<f->vF f r A=(lm (splitB 32 r)).map (FC A)
 |0,_,_,h=>by omega
 |f+1,r,A,h=>by
  rw[vF,JD];cases hc:jF 32 r with
  |none=>
   simp only[lm];by_cases hk:iC r=true
   ·simp[hk,FC]
   ·simp[hk]
  |some p=>
   obtain⟨a,b⟩:=p;have hl:=congrArg List.length (J4 hc).2;simp only[aS,List.length_cons]at hl;simp only[lm];by_cases hk:iC a=true
   ·rw[au hk,au hk,aaj f b _ (by omega)]
    cases lm (splitB 32 b)<;>rfl
   ·rw[aj hk,aj hk]
    rfl
theorem RP:∀(F A:List Int),A.length<=31->FC A F=(A++F).take 31
 | [],A,h=>by simp[FC,List.take_of_length_le h]
 |x::F,A,h=>by
  have e:FC A (x::F)=FC (qA A x) F:=rfl;rw[e];unfold qA;by_cases gJ:A.length<=30
  ·rw[au gJ,RP F _ (by simp;omega)]
   simp
  ·rw[aj gJ,RP F _ h]
   have h31:A.length=31:=by omega
   rw[<-h31,BL,BL]
theorem aak(l:List UInt8):lZ l=(lm (splitB 32 l).tail).map λF=>((splitB 32 l).headD [],F.take 31):=by
 unfold lZ;rw[JD];cases hc:jF 32 l with
 |none=>rfl
 |some p=>
  obtain⟨u,r⟩:=p;simp only;rw[aaj _ _ _ (Nat.lt_succ_self _),List.tail_cons,List.headD_cons];cases lm (splitB 32 r) with
  |none=>rfl
  |some F=>simp[RP F [] (by simp)]
theorem aal:∀(P:List (List UInt8)) (u:List UInt8),lm (P++[u])=(lm P).bind λA=>if iC u=true then some (A++[kH u]) else none
 | [],u=>by simp only[List.nil_append,lm];by_cases h:iC u=true<;>simp[h]
 |a::P,u=>by
  rw[List.cons_append,lm,lm,aal P u];by_cases h:iC a=true
  ·rw[au h,au h]
   cases lm P with
   |none=>rfl
   |some A=>by_cases h2:iC u=true<;>simp[h2]
  ·rw[aj h,aj h];rfl
theorem aip{P:List (List UInt8)}{u:List UInt8}(hm:u∈P)(h:iC u=false):lm P=none:=by
 induction P with
 |nil=>cases hm
 |cons a P ih=>
  rw[lm];rcases iW.1 hm with rfl|hm
  ·simp[h]
  ·rw[ih hm];by_cases h2:iC a=true<;>simp[h2]
def gU(s:List UInt8)(D:List Int):List UInt8:=D.foldl (λs x=>(if s.isEmpty then s else s++[32])++Lib.itoa x) s
theorem aiq(x:Int):Lib.itoa x≠[]:=by
 have h:∀n,Lib.decDigits n≠[]:=λn=>by rw[Lib.decDigits];split<;>simp
 unfold Lib.itoa;split
 ·simp
 ·exact h _
theorem RQ:∀(D:List Int) {s:List UInt8},s≠[]->gU s D=s++Lib.joinTail [32] (D.map Lib.itoa)
 | [],s,_=>by simp[gU,Lib.joinTail]
 |x::D,s,h=>by
  have e:gU s (x::D)=gU (s++[32]++Lib.itoa x) D:=by
   cases s with
   |nil=>exact absurd rfl h
   |cons a l=>rfl
  rw[e,RQ D (by simp)];simp[Lib.joinTail]
theorem Nh(D:List Int):gU [] D=iB D:=by
 cases D with
 |nil=>rfl
 |cons x D=>
  have e:gU [] (x::D)=gU (Lib.itoa x) D:=rfl;rw[e,RQ D (aiq x),iB,jB,Lib.join_cons]
theorem aam{u:List UInt8}{D:List Int}(hu:u≠[])(hD:D≠[]):gU u D=bY u D:=by
 cases D with
 |nil=>exact absurd rfl hD
 |cons x D=>
  rw[RQ _ hu,bY,iB,jB,Lib.join_cons];simp[Lib.joinTail]
theorem aan(s:List UInt8)(D E:List Int):gU s (D++E)=gU (gU s D) E:=by simp[gU,List.foldl_append]
theorem air(w:World)(n:Nat):(convert 46 9 (.slice (some ⟨w.heap.size,0,none⟩) 1 1)).run Tryz.prog (w.alloc (.cells #[.int .u8 (48+(n:Int)%10)] 5))= .ok (.string ⟨[UInt8.ofNat (48+n%10)].toArray⟩) (w.alloc (.cells #[.int .u8 (48+(n:Int)%10)] 5)):=by
 refine run_convert_bytes_back (P:=Tryz.prog) _ _ _ 5 ⟨w.heap.size,0,none⟩ 1 [UInt8.ofNat (48+n%10)] Tryz.underlying46 Tryz.underlying5 Tryz.underlying9 ?_;intro j hj;have h0:j=0:=by simp at hj;omega
 subst h0;have:=World.cell?_alloc_mark w #[.int .u8 (48+(n:Int)%10)] 5 (0,0) 0;show World.cell? _ ⟨w.heap.size,0+((0:Nat):Int).toNat,none⟩=_;refine this.trans ?_
 have e:((UInt8.ofNat (48+n%10)).toNat:Int)=48+(n:Int)%10:=by
  rw[UInt8.toNat_ofNat'];omega
 simp only[List.getElem_cons_zero,e];rfl
theorem RS{n:Nat}(h:n<=9223372036854775807):(Lib.decDigits n).length<=21:=by
 have:=Lib.itoa_length_le (n:Int) (by omega) (by omega)
 rwa [Lib.itoa_nonneg]at this
theorem aao(n:Nat):∀(w:World),n<=9223372036854775807->Calls Tryz.prog 16 #[.int .i64 n] w λe w'=>e= .returned (.string ⟨(Lib.decDigits n).toArray⟩)/\Below w.heap.size w w':=by
 induction n using Nat.strongRecOn with
 |_ n ih=>
  intro w hn;have hcv:=air w n;obtain⟨x,hx⟩:∃x,x=[UInt8.ofNat (48+n%10)]:=⟨_,rfl⟩;rw[<-hx]at hcv;by_cases h10:n<10
  ·have d1:decide (n<10)=true:=aT h10
   have d2:decide ((n:Int)<10)=true:=aT (by omega)
   have HX:Hid (Lib.decDigits n=x):=by
    show _=_;rw[hx,Lib.decDigits,dif_pos h10,Nat.mod_eq_of_lt h10]
   clear hx ih
   go_enter Tryz.func16,Tryz.ntmps16
   go_wp2_with fail
   go_ret;exact⟨by rw[HX.out];rfl,(ai _ _).alloc (ah _) _⟩
  ·have d1:decide (n<10)=false:=aU h10
   have d2:decide ((n:Int)<10)=false:=aU (by omega);have one:=ih (n/10) (by omega) (w.alloc (.cells #[.int .u8 (48+(n:Int)%10)] 5)) (by omega);have hly:=RS (n:=n/10) (by omega);obtain⟨y,hy⟩:∃y,y=Lib.decDigits (n/10):=⟨_,rfl⟩;rw[<-hy]at one hly;have hlx:x.length<=2:=by rw[hx];simp
   have add:=qY (P:=Tryz.prog) y x (by omega)
   have HX:Hid (Lib.decDigits n=y++x):=by
    show _=_;rw[hx,hy,Lib.decDigits,dif_neg h10]
   clear hx hy ih
   go_enter Tryz.func16,Tryz.ntmps16
   go_wp2_with
    (go_at_call 16;refine one.mono ?_;rintro e w2 ⟨rfl,hB⟩)
   go_ret;refine⟨by rw[HX.out];rfl,?_⟩;exact((ai _ _).alloc (ah _) _).trans (hB.mono (by simp))
theorem RU:∀(D:List Int) (u:List UInt8),(∀x∈D,eY x)->(gU u D).length<=u.length+22*D.length
 | [],u,_=>by simp[gU]
 |x::D,u,h=>by
  have e:gU u (x::D)=gU ((if u.isEmpty then u else u++[32])++Lib.itoa x) D:=rfl;have h1:=RU D ((if u.isEmpty then u else u++[32])++Lib.itoa x) λy hy=>h y (by simp[hy]);have hx:=h x (by simp);have h2:=Lib.itoa_length_le x (by have:=hx.1;omega) hx.2;rw[e];rw[aS]at h1;have h3:(if u.isEmpty then u else u++[32]).length<=u.length+1:=by split<;>simp
  simp only[List.length_cons];omega
theorem ais{u:List UInt8}{D:List Int}{i:Nat}(h:i<D.length):gU u (D.take (i+1))=(if (gU u (D.take i)).isEmpty then gU u (D.take i) else gU u (D.take i)++[32])++Lib.itoa (D.getD i 0):=by
 rw[fT h,aan];simp[List.getD,h,gU]
section
variable{w:World}
theorem JE{dv:Value}{u:List UInt8}{D:List Int}(hu:u.length<=100000)(hd:aY w w.heap.size dv D)(hl:D.length<=1000)(hb:∀x∈D,eY x):Calls Tryz.prog 7 #[.string ⟨u.toArray⟩,dv] w λe w'=>e= .returned (.string ⟨(gU u D).toArray⟩)/\Below w.heap.size w w':=by
 obtain⟨da,dc,hdv⟩:=hd.1;subst hdv;obtain⟨n,hn⟩:=af D.length;have HD:Hid (aY w w.heap.size (.slice da D.length dc) D/\D.length=n/\(∀x∈D,eY x)/\n<=1000/\u.length<=100000):=⟨hd,hn,hb,by omega,hu⟩;rw[hn]at hl⊢;clear hd hb hn hu
 go_enter Tryz.func7,Tryz.ntmps7
 go_wp2_with fail
 go_loopw [0,5] (λv0 v5 wr=> ∃(i:Nat) (t:List UInt8),v5= .int .i64 i/\i<=n/\v0= .string ⟨t.toArray⟩/\t=gU u (D.take i)/\Below w.heap.size w wr) (λ_ v _=>n-(intOf v).toNat)
 case atStart=>exact⟨0,u,rfl,aP _,rfl,rfl,ai _ _⟩
 case round=>
  obtain⟨i,t,rfl,hi,rfl,ht,hB⟩:=hrel;by_cases hlt:i<n
  ·have d1:decide ((i:Int)<(n:Int))=true:=aT (by omega)
   obtain⟨hL,hn,hb,hn1,hu⟩:=HD.out;obtain⟨b,o,c,h1,h2⟩:=SY hL hB (show i<D.length by omega);obtain⟨rfl,-⟩:da=some ⟨b,o,none⟩/\True:=⟨by injection h1,trivial⟩;have hnx:=ais (u:=u) (D:=D) (i:=i) (by omega);have htl:=RU (D.take i) u λx hx=>hb x (wR hx);rw[<-ht]at hnx htl;have htl:t.length<=200000:=by rw[fq]at htl;omega
   obtain⟨x,hx2⟩:=af (D.getD i 0);rw[hx2]at h2 hnx;have hbx:eY x:=hb x (by rw[<-hx2];simp[List.getD,show i<D.length by omega]);obtain⟨hx5,hx6⟩:=hbx;obtain⟨t1,ht1⟩:=af ((if t.isEmpty then t else t++[32]));rw[ht1]at hnx
   have hl1:t1.length<=200001:=by
    rw[<-ht1];split
    ·omega
    ·simp;omega
   have add0:=qY (P:=Tryz.prog) t [32] (by simp;omega);have HB:Hid (Below w.heap.size w wr):=hB;have k0:(0:Int)<=(i:Int):=aF _;have k1:(i:Int)<(n:Int):=by omega
   have mz:n-(i+1)<n-i:=by omega
   by_cases hx0:x<0
   ·have d2:decide (x<0)=true:=aT hx0
    obtain⟨m,hm⟩:∃m:Nat,-x=(m:Int):=⟨(-x).toNat,by omega⟩;have hw:IntKind.i64.wrap (-x)=(m:Int):=by rw[hm];exact uE _ (by omega)
    have dg:=aao m wr (by omega);have hdl:=RS (n:=m) (by omega)
    have hit:Lib.itoa x=45::Lib.decDigits m:=by
     unfold Lib.itoa;rw[au hx0,show x.natAbs=m by omega]
    rw[hit]at hnx;obtain⟨y,hy⟩:=af (Lib.decDigits m);rw[hy]at dg hdl hnx;have add1:=qY (P:=Tryz.prog) t1 [45] (by simp;omega);obtain⟨t2,ht2⟩:=af (t1++[45]);have hl2:t2.length=t1.length+1:=by rw[<-ht2];simp
    rw[ht2]at add1;have add2:=qY (P:=Tryz.prog) t2 y (by omega)
    have HN:Hid (gU u (D.take (i+1))=t2++y):=by
     show _=_;rw[hnx,<-ht2];simp
    cases e0:t.isEmpty with
    |true=>
     obtain rfl:t=t1:=by rw[<-ht1,e0];rfl
     clear hL hn hb h1 hx2 hB ht hnx ht1 htl hit hy ht2 add0
     go_wp2_with
      (go_at_call 16;refine dg.mono ?_;rintro e w3 ⟨rfl,h3⟩
       have H3:Hid (Below w.heap.size w w3):=HB.out.trans (h3.mono HB.out.size)
       clear dg h3)
     go_roundw
     case rel=>exact⟨i+1,_,by go_num,by omega,rfl,HN.out.symm,H3.out⟩
     case measure=>simp[intOf];omega
    |false=>
     rw[show t++[32]=t1 by rw[<-ht1,e0];rfl]at add0;clear hL hn hb h1 hx2 hB ht hnx ht1 htl hit hy ht2
     go_wp2_with
      (go_at_call 16;refine dg.mono ?_;rintro e w3 ⟨rfl,h3⟩
       have H3:Hid (Below w.heap.size w w3):=HB.out.trans (h3.mono HB.out.size)
       clear dg h3)
     go_roundw
     case rel=>exact⟨i+1,_,by go_num,by omega,rfl,HN.out.symm,H3.out⟩
     case measure=>simp[intOf];omega
   ·have d2:decide (x<0)=false:=aU hx0
    obtain⟨m,rfl⟩:∃m:Nat,x=(m:Int):=⟨x.toNat,by omega⟩;have dg:=aao m wr (by omega);have hdl:=RS (n:=m) (by omega);rw[Lib.itoa_nonneg]at hnx;obtain⟨y,hy⟩:=af (Lib.decDigits m);rw[hy]at dg hdl hnx;have add2:=qY (P:=Tryz.prog) t1 y (by omega);have HN:Hid (gU u (D.take (i+1))=t1++y):=hnx;cases e0:t.isEmpty with
    |true=>
     obtain rfl:t=t1:=by rw[<-ht1,e0];rfl
     clear hL hn hb h1 hx2 hB ht hnx ht1 htl hy add0
     go_wp2_with
      (go_at_call 16;refine dg.mono ?_;rintro e w3 ⟨rfl,h3⟩
       have H3:Hid (Below w.heap.size w w3):=HB.out.trans (h3.mono HB.out.size)
       clear dg h3)
     go_roundw
     case rel=>exact⟨i+1,_,by go_num,by omega,rfl,HN.out.symm,H3.out⟩
     case measure=>simp[intOf];omega
    |false=>
     rw[show t++[32]=t1 by rw[<-ht1,e0];rfl]at add0;clear hL hn hb h1 hx2 hB ht hnx ht1 htl hy
     go_wp2_with
      (go_at_call 16;refine dg.mono ?_;rintro e w3 ⟨rfl,h3⟩
       have H3:Hid (Below w.heap.size w w3):=HB.out.trans (h3.mono HB.out.size)
       clear dg h3)
     go_roundw
     case rel=>exact⟨i+1,_,by go_num,by omega,rfl,HN.out.symm,H3.out⟩
     case measure=>simp[intOf];omega
  ·have d1:decide ((i:Int)<(n:Int))=false:=aU (by omega)
   have HE:Hid (t=gU u D/\Below w.heap.size w wr):=⟨by rw[ht,pG (by have:=HD.out.2.1;omega)],hB⟩;clear ht hB
   go_wp2_with fail
   go_ret;exact⟨by rw[<-HE.out.1];rfl,HE.out.2⟩
theorem aap{v:Value}{X:List Bool}(h:kg w v X)(hl:X.length<=1000):Calls Tryz.prog 20 #[v] w λe w'=>e= .returned (.int .i64 (fI X:Nat))/\w'=w:=by
 obtain⟨a,c,hv⟩:=h.1;subst hv;obtain⟨n,hn⟩:=af X.length;have HX:Hid (kg w (.slice a X.length c) X/\X.length=n):=⟨h,hn⟩;rw[hn]at hl⊢;clear h hn
 go_enter Tryz.func20,Tryz.ntmps20
 go_wp2_with fail
 go_loopw [3,4] (λv3 v8 wr=> ∃i:Nat,v8= .int .i64 i/\i<=n/\v3= .int .i64 (fI (X.take i):Nat)/\wr=w) (λ_ v _=>n-(intOf v).toNat)
 case atStart=>exact⟨0,rfl,aP _,by simp[fI],rfl⟩
 case round=>
  obtain⟨i,rfl,hi,rfl,rfl⟩:=hrel;by_cases hlt:i<n
  ·have d1:decide ((i:Int)<(n:Int))=true:=aT (by omega)
   obtain⟨hb,hn⟩:=HX.out;obtain⟨g,o,c2,h1,h2⟩:=hb.2 i (by omega);obtain rfl:a=some ⟨g,o,none⟩:=by injection h1
   have hnx:=aag (X:=X) (i:=i) (by omega);have hle:fI (X.take i)<=1000:=aZ (BJ _) (by simp;omega);obtain⟨k,hk⟩:=af (fI (X.take i));rw[hk]at hnx hle⊢;have HN:Hid (fI (X.take (i+1))=k+if X.getD i false then 1 else 0):=hnx;have j0:(0:Int)<=(i:Int):=aF _;have j1:(i:Int)<(n:Int):=by omega
   cases hx:X.getD i false with
   |true=>
    rw[hx]at h2 HN;clear hb hn h1 hnx hk hx
    go_wp2_with fail
    go_roundw
    case rel=>exact⟨i+1,by go_num,by omega,by rw[HN.out];go_num,by first|rfl|trivial⟩
    case measure=>simp[intOf];omega
   |false=>
    rw[hx]at h2 HN;clear hb hn h1 hnx hk hx
    go_wp2_with fail
    go_roundw
    case rel=>exact⟨i+1,by go_num,by omega,by rw[HN.out];simp,by first|rfl|trivial⟩
    case measure=>simp[intOf];omega
  ·have d1:decide ((i:Int)<(n:Int))=false:=aU (by omega)
   have HE:Hid (fI (X.take i)=fI X):=by
    show _=_;rw[pG (by have:=HX.out.2;omega)]
   rw[HE.out]
   go_wp2_with fail
   go_ret;exact⟨rfl,rfl⟩
end
end Go.Proofs.YthbifaoaiggooaaGreatDoor
