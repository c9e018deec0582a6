import Derived.Test.YthbifaoaiggooaaGreatDoorq16
set_option maxHeartbeats 6400000
set_option maxRecDepth 100000
namespace Go.Proofs.YthbifaoaiggooaaGreatDoor
open Go.RowKit
theorem agp{s:Int}{a:Option Addr}{n c:Nat}(w:World):Sem.run Tryz.prog (Instr.field 129 (.agg #[.int .i64 s,.slice a n c]) 1) w= .ok (.slice a n c) w:=by
 unfold Instr.field asAgg
 go_simp
def fe(PL:List Pl)(p q:Nat):PC:=⟨PL.map λx=>x.1,(PL.drop 1).map λx=>x.2.2,p,q⟩
section
variable{PL:List Pl}{p q:Nat}
theorem agq(h:0<PL.length)(s:Nat):fe (PL++[(s,.slice none 0 0,[])]) (p+1) q=⟨(fe PL p q).S++[s],(fe PL p q).F++[[]],p+1,q⟩:=by
 unfold fe;rw[FI (by omega)];simp
theorem agr{kp rl gg:Nat}(h:PL.length=kp+1+rl)(dv:Value)(m:Int):
 fe (PL.take (kp+1)++[(gg,dv,m::((PL.drop (kp+1)).map λx=>x.2.2).flatten)]) p (q+1)=⟨(fe PL p q).S.take (kp+1)++[gg],(fe PL p q).F.take kp++[m::((fe PL p q).F.drop kp).flatten],p,q+1⟩:=by
 unfold fe;have hl:(PL.take (kp+1)).length=kp+1:=by rw[fq,h];omega
 rw[FI (by omega)];simp only[fD,List.map_take,jB,oq,List.map_drop,List.drop_drop,PC.mk.injEq,true_and,List.drop_take];refine⟨?_,trivial⟩;rw[Nat.add_comm 1 kp];simp
end
structure BB(T N:Nat)(R:List Ru)(tok:List Int)(K:Nat)(w0:World)(d:tZ)(sv:Value)(PL:List Pl)(p q n:Nat)(w:World):Prop where
 m:bJ w0 d sv PL p q w
 inv:o6 T N R (ax T N R K).1 (ax T N R K).2 tok (fe PL p q)
 sum:Sum (fe PL p q)
 fst:(PL.getD 0 iq).2.2=[]
 num:n=(tok.length-p)+(401-q)
 few:q<=400
 run:uT T R (cellP T N R (ax T N R K).1 (ax T N R K).2) (kZ T (ax T N R K).1) tok (n+1) (fe PL p q)=tX T N R (ax T N R K).1 (ax T N R K).2 tok
 small:0<PL.length/\PL.length+n<=1000
theorem BB.next{T N:Nat}{R:List Ru}{tok:List Int}{K:Nat}{w0:World}{d:tZ}{sv dW:Value}{PL mF:List Pl}{p q n p' q':Nat}{w w':World}(h:BB T N R tok K w0 d sv PL p q n w)(lr:qL T N R (ax T N R K).1 (ax T N R K).2)(rV:∀t∈tok,0<=t/\t<(T:Int))
 (hst:mE T R (cellP T N R (ax T N R K).1 (ax T N R K).2) (kZ T (ax T N R K).1) tok (fe PL p q)= .go (fe mF p' q')) (hq:q'<=400) (hM:bJ w0 d dW mF p' q' w') (h0:(mF.getD 0 iq).2.2=[]) (hS:0<mF.length/\mF.length<=PL.length+1):n-1<n/\BB T N R tok K w0 d dW mF p' q' (n-1) w':=by
 have hi:=h.inv.go lr rV hst;have hs:=afW hst;have hp:p'<=tok.length:=hi.pos;have hp0:p<=tok.length:=h.inv.pos;have hn:=h.num;have hsm:=h.small;have zy:=h.few;have hs1:p'+q'=p+q+1/\q<=q'/\p<=p':=hs;refine⟨by omega,hM,hi,Yk hst h.sum,h0,by omega,hq,?_,by omega⟩;have hr:=h.run;rw[Yj hst zy]at hr;rw[show n-1+1=n by omega];exact hr
theorem BB.total{T N:Nat}{R:List Ru}{tok:List Int}{K:Nat}{w0:World}{d:tZ}{sv:Value}{PL:List Pl}{p q n:Nat}{w:World}(h:BB T N R tok K w0 d sv PL p q n w):((PL.map λx=>x.2.2).map List.length).sum<=10000:=by
 have h1:=h.sum;have h2:=h.small.1;have h3:=h.fst;have h4:=h.few;unfold Sum fe at h1;simp only at h1;cases PL with
 |nil=>simp at h2
 |cons x L=>
  simp only[qP,om]at h1;have h5:x.2.2=[]:=h3;rw[jB,jB,List.sum_cons,h5,h1];simp;omega
theorem ags{w0 w:World}{d:tZ}{sv:Value}{R:List Ru}{tok:List Int}{N K:Nat}(h:bJ w0 d sv [iq] 0 0 w)(E:CO w0 d R tok (dF d.T N R K) (jo d.T N R K))(hf:dD d.T N R)(hW:Whole d.T N R K)(hN:0<N)(hcl:gZ (dF d.T N R K)=0)(rV:∀t∈tok,0<=t/\t<(d.T:Int))(gJ:tok.length<=30):
 Calls Tryz.prog 61 #[.pointer (some ⟨d.ra,0,none⟩)] w λe w'=> ∃dv D a x,e= .returned (.tuple #[dv,.int .i64 a,.int .i64 x])/\I4 w' dv D/\(D,a,x)=zM (tX d.T N R (ax d.T N R K).1 (ax d.T N R K).2 tok)/\Below w0.heap.size w0 w':=by
 obtain⟨T,hT⟩:=af d.T;rw[hT]at E hf hW hcl rV⊢;have hlr:=Qt hf hW (QB hW);have I9:Hid (qL T N R (ax T N R K).1 (ax T N R K).2):=hlr;have ajm:Hid (∀k,k<K->∀t,t<=T->AX (cellP T N R (ax T N R K).1 (ax T N R K).2 k t)=true):=af0 hcl;have CR:Hid (∀t∈tok,0<=t/\t<(T:Int)):=rV;have CJ:Hid (Whole T N R K):=hW;have HF:Hid (dD T N R):=hf;have HE:Hid (CO w0 d R tok (dF T N R K) (jo T N R K)):=E
 have EG:Hid (BB T N R tok K w0 d sv [iq] 0 0 (tok.length+401) w):=by
  refine⟨h,Qv,rfl,rfl,by omega,by omega,rfl,by simp;omega⟩
 have HT:Hid (d.T=T):=hT;obtain⟨rb,hrb⟩:=af d.ra;have nW:Hid (d.ra=rb):=hrb;rw[hrb];clear h E hf hW hcl rV hlr hT hrb
 go_enter Tryz.func61,Tryz.ntmps61
 go_wp2_with fail
 go_loopg [2] (tok.length+401) (λn s2 wr=>s2= .slice none 0 0/\∃(sv:Value) (PL:List Pl) (p q:Nat),BB T N R tok K w0 d sv PL p q n wr)
 case atStart=>exact⟨rfl,_,_,_,_,EG.out⟩
 case round=>
  clear EG;obtain⟨rfl,Ja,PL,p,q,dX⟩:=hrel;have fM:Hid (BB T N R tok K w0 d Ja PL p q gk wr):=dX;have zy:=dX.few;have hsm:=dX.small;have lV:=dX.num;obtain⟨sh1,Jb,QK⟩:=dX.inv.shape I9.out;have hKl:(ax T N R K).2.length=K:=CJ.out;rw[hKl]at Jb QK;obtain⟨k,hk⟩:∃k,PL.length=k+1:=⟨PL.length-1,by omega⟩
  have htop:Bu (fe PL p q)=(PL.getD k iq).1:=by
   unfold Bu fe;simp[List.getD,hk]
  obtain⟨tp,htp⟩:=af ((PL.getD k iq).1);rw[htop,htp]at Jb;have hpl:p<=tok.length:=dX.inv.pos;have YI:=afR CR.out p;obtain⟨nt,hnt⟩:=af (mD T tok p);rw[hnt]at YI;obtain⟨⟨sh,ql,en⟩,hce⟩:=af (cellP T N R (ax T N R K).1 (ax T N R K).2 tp nt)
  have EI:=agf (tp:=tp) (nt:=nt) (sh:=sh) (ql:=ql) (en:=en) dX.m HE.out hk (by omega) htp (by rw[uU];exact Jb) (by rw[zL Jb,IU];omega) (λhpt=>by
   rw[<-hnt];unfold mD;rw[au hpt];have e1:tok.getD p 0=tok[p]:=by simp[List.getD,hpt]
   have:=CR.out tok[p] (jO hpt);rw[e1]
   omega) (λhpt=>by
   rw[<-hnt,HT.out];unfold mD
   rw[aj hpt]) (by rw[zL Jb,QA YI,hce])
  have hstep:mE T R (cellP T N R (ax T N R K).1 (ax T N R K).2) (kZ T (ax T N R K).1) tok (fe PL p q)=tV R (kZ T (ax T N R K).1) (fe PL p q) (sh,ql,en):=by
   unfold mE;rw[htop,htp];show tV R _ _ (cellP T N R _ _ tp (mD T tok p))=_;rw[hnt,hce]
  have mQ:Hid (mE T R (cellP T N R (ax T N R K).1 (ax T N R K).2) (kZ T (ax T N R K).1) tok (fe PL p q)=tV R (kZ T (ax T N R K).1) (fe PL p q) (sh,ql,en)):=hstep;have Me:Hid (cellP T N R (ax T N R K).1 (ax T N R K).2 tp nt=(sh,ql,en)):=hce;have agt:Hid (Bu (fe PL p q)=tp):=htop.trans htp;have jb:Hid (PL.length=k+1):=hk;have X9:Hid (∀s∈(fe PL p q).S,s<K):=QK;rw[nW.out]at EI;clear hstep hce htop htp hnt QK sh1 dX hk;obtain⟨m2,hm2⟩:=af ql.length;have kN:Hid (ql.length=m2):=hm2
  have yh:=EI.mono (R':=λe w'=> ∃ua uc,e= .returned (.agg #[.int .i64 sh,.slice ua m2 uc,.bool en])/\aY w' w'.heap.size (.slice ua m2 uc) ql/\Below wr.heap.size wr w') λe w' ⟨rl,h1,h2,h3⟩=>by
   obtain⟨a,c,hrl⟩:=h2.1;rw[hm2]at hrl;subst hrl;exact⟨a,c,h1,h2,h3⟩
  clear EI hm2;have ni:Hid (∀w5 (o:Obj),Below wr.heap.size wr w5->bJ w0 d Ja PL p q (w5.alloc o)):=λw5 o hb=>(fM.out.m.below hb).alloc o;cases en with
  |true=>
   have hfin:=fM.out.inv.fin I9.out CR.out (d:=(fe PL p q).F.getD 0 []) (by rw[mQ.out];rfl);obtain⟨dd,hdd⟩:=af ((fe PL p q).F.getD 0 []);rw[hdd]at hfin
   have hdone:tX T N R (ax T N R K).1 (ax T N R K).2 tok= .done dd:=by
    rw[<-fM.out.run,uT,au (by exact zy)];simp only[mQ.out,tV,bQ];rw[hdd]
   have HDn:Hid (tX T N R (ax T N R K).1 (ax T N R K).2 tok= .done dd):=hdone
   have hk1:k=1:=by
    have:=congrArg List.length hfin.2;simp only[fe,cK,pE,jb.out,List.length_singleton]at this;omega
   subst hk1
   have HD2:Hid ((PL.getD 1 iq).2.2=dd):=by
    show (PL.getD 1 iq).2.2=dd;have h2:=jb.out
    match PL,h2 with
    | [a,b],_=>
     have h3:=hfin.2;simp only[fe,qP,om,jB,oq,List.cons.injEq,and_true]at h3;exact h3
   obtain⟨x1,hx1⟩:=af ((PL.getD 1 iq).2.1);have tN:Hid ((PL.getD 1 iq).2.1=x1):=hx1;obtain⟨s1,hs1⟩:=af ((PL.getD 1 iq).1);have uJ:Hid ((PL.getD 1 iq).1=s1):=hs1
   obtain⟨da,dn,dc,hxs⟩:∃a n c,x1= .slice a n c:=by
    obtain⟨a,c,e⟩:=(fM.out.m.EW (i:=1) (by rw[jb.out];omega)).slice;exact⟨a,_,c,by rw[<-hx1,e]⟩
   subst hxs;have hfd:=λw=>agp (s:=(s1:Int)) (a:=da) (n:=dn) (c:=dc) w;clear hfin hdd hdone hx1 hs1
   go_wp2_with
    (first
     |(go_at_call 100;refine yh.mono ?_;rintro e w5 ⟨ua,uc,rfl,hL5,aD⟩
       have iT:=ni.out w5 (.cells #[.int .i64 sh,.slice ua m2 uc,.bool true] 117) aD;have Es:Hid (bJ w0 d Ja PL p q (w5.alloc (.cells #[.int .i64 sh,.slice ua m2 uc,.bool true] 117))):=iT;have la:=QF iT jb.out (by omega) uJ.out tN.out;rw[nW.out]at la
       clear iT hL5 aD yh)
     |(go_at_call 101;refine la.mono ?_;rintro e w6 ⟨rfl,bC⟩
       have qg:Hid (bJ w0 d Ja PL p q w6):=Es.out.below bC
       clear la bC))
   refine aH (v:= .tuple #[.slice da dn dc,.int .i64 (-1),.int .i64 0]) (by simp[results,Tryz.results61,go_sem]) rfl ?_;have hdv:=(qg.out.EW (i:=1) (by rw[jb.out];omega)).aga;rw[tN.out,HD2.out]at hdv;exact⟨_,dd,-1,0,rfl,hdv,by rw[HDn.out];rfl,qg.out.since⟩
  |false=>
   by_cases hsh:0<=sh
   ·obtain⟨sn,rfl⟩:∃sn:Nat,sh=sn:=⟨sh.toNat,by omega⟩
    have hgo:mE T R (cellP T N R (ax T N R K).1 (ax T N R K).2) (kZ T (ax T N R K).1) tok (fe PL p q)= .go (fe (PL++[(sn,.slice none 0 0,[])]) (p+1) q):=by
     rw[mQ.out,agq hsm.1];unfold tV;simp only[dO,bN,hsh,bQ,Int.toNat_natCast];rfl
    have Cr:Hid (mE T R (cellP T N R (ax T N R K).1 (ax T N R K).2) (kZ T (ax T N R K).1) tok (fe PL p q)= .go (fe (PL++[(sn,.slice none 0 0,[])]) (p+1) q)):=hgo;clear hgo
    go_wp2_with
     (first
      |(go_at_call 100;refine yh.mono ?_;rintro e w5 ⟨ua,uc,rfl,hL5,aD⟩
        have QL:=agd (ni.out w5 (.cells #[.int .i64 sn,.slice ua m2 uc,.bool false] 117) aD) hsm.1 (by omega) (by omega) sn;rw[nW.out]at QL
        clear hL5 aD yh)
      |(go_at_call 102;refine QL.mono ?_;rintro e w6 ⟨rfl,QM,lM⟩
        have qg:Hid (bJ w0 d QM (PL++[(sn,.slice none 0 0,[])]) (p+1) q w6):=lM
        clear QL lM))
    have hnx:=fM.out.next I9.out CR.out Cr.out zy qg.out (by
     have:=fM.out.fst;rw[List.getD,vo hsm.1]
     exact this) (by simp)
    go_roundg (gk-1)
    case measure=>exact hnx.1
    case rel=>exact⟨rfl,_,_,_,_,hnx.2⟩
   ·have ajn:decide (0<=sh)=false:=aU hsh
    cases qM:ql with
    |nil=>
     have agu:m2=0:=by rw[<-kN.out,qM];rfl
     subst agu
     have hno:tX T N R (ax T N R K).1 (ax T N R K).2 tok= .none p:=by
      rw[<-fM.out.run,uT,au (by exact zy)];simp only[mQ.out,tV,qM,aj hsh];simp[fe]
     have HDn:Hid (tX T N R (ax T N R K).1 (ax T N R K).2 tok= .none p):=hno;clear hno qM
     go_wp2_with
      (go_at_call 100;refine yh.mono ?_;rintro e w5 ⟨ua,uc,rfl,hL5,aD⟩
       have iT:=ni.out w5 (.cells #[.int .i64 sh,.slice ua 0 uc,.bool false] 117) aD;have c6:=(iT.cell (i:=6) rfl).1;rw[nW.out]at c6;have zi:Hid (Below w0.heap.size w0 (w5.alloc (.cells #[.int .i64 sh,.slice ua 0 uc,.bool false] 117))):=iT.since
       clear iT hL5 aD yh)
     go_big_quiet (fail)
     go_wp2_with fail
     refine aH (v:= .tuple #[.slice none 0 0,.int .i64 p,.int .i64 0]) (by simp[results,Tryz.results61,go_sem]) rfl ?_;exact⟨_,[],p,0,rfl,⟨⟨⟨_,_,rfl⟩,λp hp=>by simp at hp⟩,_,_,_,rfl,ah _⟩,by rw[HDn.out];rfl,iR zi.out _⟩
    |cons q1 rest=>
     obtain⟨m,rfl,ER,hdn⟩:=Qw (T:=T) (N:=N) (R:=R) (NL:=(ax T N R K).1) (Ls:=(ax T N R K).2) (k:=tp) (t:=nt) (q:=q1) (by rw[Me.out,qM];simp);obtain⟨_,hr1,hr2,gg,hr3⟩:=fM.out.inv.red I9.out (t:=nt) (m:=m) (by rw[agt.out,Me.out,qM];simp);rw[show (ax T N R K).2.length=K from CJ.out]at hr2;have II:(fe PL p q).F.length=k:=by simp[fe,jb.out]
     rw[II]at hr1 hr2 hr3;obtain⟨rl,hrl⟩:=af ((R.getD m (0,[])).2.length);have YJ:=HF.out.left (R.getD m (0,[])) (by simp[List.getD,ER]);obtain⟨Lf,Gf⟩:∃Lf:Nat,(R.getD m (0,[])).1=(Lf:Int):=⟨(R.getD m (0,[])).1.toNat,by omega⟩;rw[hrl]at hr1 hr2 hr3;rw[Gf]at hr3 YJ;rw[Int.toNat_natCast]at hr3;obtain⟨kp,hkp⟩:∃kp,k=kp+rl:=⟨k-rl,by omega⟩;rw[hkp,show kp+rl-rl=kp by omega]at hr2 hr3
     have QN:(fe PL p q).S.getD kp 0=(PL.getD kp iq).1:=by
      have:kp<PL.length:=by rw[jb.out];omega
      simp[fe,List.getD,this]
     rw[QN]at hr2 hr3;obtain⟨qs,CP⟩:=af ((PL.getD kp iq).1);rw[CP]at hr2 hr3;have Mi:PL.length=kp+1+rl:=by rw[jb.out];omega
     have hgo:∀dv,mE T R (cellP T N R (ax T N R K).1 (ax T N R K).2) (kZ T (ax T N R K).1) tok (fe PL p q)= .go (fe (PL.take (kp+1)++[(gg,dv,(m:Int)::((PL.drop (kp+1)).map λx=>x.2.2).flatten)]) p (q+1)):=λdv=>by
      rw[mQ.out,qM,agr Mi];unfold tV;simp only[dO,bN,aj hsh];unfold IQ;simp only[Int.toNat_natCast,II,hrl,hkp];rw[show kp+rl-rl=kp by omega,QN,CP,Gf,Int.toNat_natCast,hr3,Int.toNat_natCast];rfl
     have Cr:Hid (∀dv,mE T R (cellP T N R (ax T N R K).1 (ax T N R K).2) (kZ T (ax T N R K).1) tok (fe PL p q)= .go (fe (PL.take (kp+1)++[(gg,dv,(m:Int)::((PL.drop (kp+1)).map λx=>x.2.2).flatten)]) p (q+1))):=hgo;have agv:m2=rest.length+1:=by rw[<-kN.out,qM];rfl
     have ajo:((m2:Int)==0)=false:=by simp;omega
     have QO:Hid (ql=(m:Int)::rest):=qM
     have agw:Hid (∀w6,bJ w0 d Ja PL p q w6->Calls Tryz.prog 103 #[.pointer (some ⟨rb,0,none⟩),.int .i64 m] w6 λe w'=>e= .returned (.tuple #[])/\∃dW dv,bJ w0 d dW (PL.take (kp+1)++[(gg,dv,(m:Int)::((PL.drop (kp+1)).map λx=>x.2.2).flatten)]) p (q+1) w'):=λw6 h6=>by
      have:=agk h6 HE.out (m:=m) (kp:=kp) (rl:=rl) (Lf:=Lf) (qs:=qs) (gg:=gg) ER Gf hrl Mi (by omega) (by omega) fM.out.total CP (by rw[Yn];exact hr2) (by rw[af2 CJ.out hr2 hN];omega) (by rw[afZ hr2];exact hr3);rw[nW.out]at this;exact this
     have YK:Hid (PL.length=kp+1+rl):=Mi;clear hgo qM agv hr3 hdn Gf hrl CP QN II Mi YJ hr1 hkp;by_cases hq4:q=400
     ·subst hq4
      have hno:tX T N R (ax T N R K).1 (ax T N R K).2 tok= .size:=by
       rw[<-fM.out.run,Yj (Cr.out (.slice none 0 0)) (by exact zy)];cases gk with
       |zero=>rfl
       |succ n=>rw[uT,aj (by simp[fe])]
      have HDn:Hid (tX T N R (ax T N R K).1 (ax T N R K).2 tok= .size):=hno;clear hno
      go_wp2_with
       (go_at_call 100;refine yh.mono ?_;rintro e w5 ⟨ua,uc,rfl,hL5,aD⟩
        have iT:=ni.out w5 (.cells #[.int .i64 sh,.slice ua m2 uc,.bool false] 117) aD;have c7:=(iT.cell (i:=7) rfl).1;rw[nW.out]at c7;have zi:Hid (Below w0.heap.size w0 (w5.alloc (.cells #[.int .i64 sh,.slice ua m2 uc,.bool false] 117))):=iT.since
        clear iT hL5 aD yh)
      refine aH (v:= .tuple #[.slice none 0 0,.int .i64 0,.int .i64 1]) (by simp[results,Tryz.results61,go_sem]) rfl ?_;exact⟨_,[],0,1,rfl,⟨⟨⟨_,_,rfl⟩,λp hp=>by simp at hp⟩,_,_,_,rfl,ah _⟩,by rw[HDn.out];rfl,zi.out⟩
     ·have Ia:((q:Int)==400)=false:=by simp;omega
      go_wp2_with
       (first
        |(go_at_call 100;refine yh.mono ?_;rintro e w5 ⟨ua,uc,rfl,hL5,aD⟩
          have iT:=ni.out w5 (.cells #[.int .i64 sh,.slice ua m2 uc,.bool false] 117) aD;have c7:=(iT.cell (i:=7) rfl).1;rw[nW.out]at c7;obtain⟨lb,lo,lc,hlv,hlb,x0⟩:=hL5.2 0 (by rw[QO.out];simp);rw[kN.out]at hlv;injection hlv with hl1 _ hl3;subst hl1;subst hl3;rw[QO.out]at x0;have y0:(w5.alloc (.cells #[.int .i64 sh,.slice (some ⟨lb,lo,none⟩) m2 uc,.bool false] 117)).cell? ⟨lb,lo,none⟩=some (.int .i64 m):=(dB _ _ _ hlb).trans x0;have ajp:(0:Int)<(m2:Int):=by have:=kN.out;rw[QO.out]at this;simp at this;omega
          have red:=agw.out _ iT
          clear iT hL5 aD yh x0)
        |(go_at_call 103;refine red.mono ?_;rintro e w6 ⟨rfl,QM,YL,lM⟩
          have qg:Hid (bJ w0 d QM (PL.take (kp+1)++[(gg,YL,(m:Int)::((PL.drop (kp+1)).map λx=>x.2.2).flatten)]) p (q+1) w6):=lM
          clear red lM))
      have hnx:=fM.out.next I9.out CR.out (Cr.out YL) (by omega) qg.out (by
       have h1:=fM.out.fst;have h2:0<(PL.take (kp+1)).length:=by rw[fq,YK.out];omega
       rw[List.getD,vo h2,List.getElem?_take,au (by omega)]
       exact h1) (by
       have:=YK.out;simp
       omega)
      go_roundg (gk-1)
      case measure=>exact hnx.1
      case rel=>exact⟨rfl,_,_,_,_,hnx.2⟩
theorem Mj{w:World}{T N x:Int}{rv tv:Value}{R:List Ru}{tok:List Int}(hr:aG w w.heap.size rv R)(ht:aY w w.heap.size tv tok)(hx:x≠0)
 (tf:Calls Tryz.prog 60 #[.agg #[.int .i64 T,.int .i64 N,rv],tv] (w.alloc (.cells #[.int .i64 T,.int .i64 N,rv] 27)) λe w'=>e= .returned (zN x)/\Below (w.alloc (.cells #[.int .i64 T,.int .i64 N,rv] 27)).heap.size (w.alloc (.cells #[.int .i64 T,.int .i64 N,rv] 27)) w'):
 Calls Tryz.prog 26 #[.agg #[.int .i64 T,.int .i64 N,rv],tv] w λe w'=>e= .returned (.tuple #[.slice none 0 0,.int .i64 0,.int .i64 x])/\Below w.heap.size w w':=by
 obtain⟨ra,rc,aI⟩:=hr.1;obtain⟨ta,tc,gu⟩:=ht.1;subst aI;subst gu;have HB0:Hid (Below w.heap.size w (w.alloc (.cells #[.int .i64 T,.int .i64 N,.slice ra R.length rc] 27))):=(ai _ _).alloc (ah _) _;have hxn:(x !=0)=true:=by simpa using hx
 clear hr ht
 go_enter Tryz.func26,Tryz.ntmps26
 go_wp2_with
  (go_at_call 60;refine tf.mono ?_;rintro e w1 ⟨rfl,hB1⟩
   have HB1:Hid (Below w.heap.size w (w1.alloc (.cells #[.slice none 0 0,.slice none 0 0] 73))):=(HB0.out.trans (hB1.mono (by simp))).alloc (by have:=hB1.size;simp at this;omega) _
   clear hB1)
 refine aH (v:= .tuple #[.slice none 0 0,.int .i64 0,.int .i64 x]) (by simp[results,Tryz.results26,go_sem]) rfl ⟨rfl,HB1.out⟩
theorem agx{w:World}{T N K:Nat}{rv tv:Value}{R:List Ru}{tok:List Int}(hr:aG w w.heap.size rv R)(ht:aY w w.heap.size tv tok)(hf:dD T N R)(hN:0<N)(hW:Whole T N R K)(hcl:gZ (dF T N R K)=0)(hin:eT T tok=true)(gJ:tok.length<=30)
 (tf:Calls Tryz.prog 60 #[.agg #[.int .i64 T,.int .i64 N,rv],tv] (w.alloc (.cells #[.int .i64 T,.int .i64 N,rv] 27)) λe w'=>Below (w.alloc (.cells #[.int .i64 T,.int .i64 N,rv] 27)).heap.size (w.alloc (.cells #[.int .i64 T,.int .i64 N,rv] 27)) w'/\
   ∃ca cc ga gc,e= .returned (.tuple #[.agg #[.slice ca K cc,.slice ga K gc],.int .i64 0])/\TabAt w' (.slice ca K cc) (.slice ga K gc) (dF T N R K) (jo T N R K)):
 Calls Tryz.prog 26 #[.agg #[.int .i64 T,.int .i64 N,rv],tv] w λe w'=> ∃dv D a x,e= .returned (.tuple #[dv,.int .i64 a,.int .i64 x])/\I4 w' dv D/\(D,a,x)=zM (tX T N R (ax T N R K).1 (ax T N R K).2 tok)/\Below w.heap.size w w':=by
 obtain⟨ra,rc,aI⟩:=hr.1;obtain⟨ta,tc,gu⟩:=ht.1;subst aI;subst gu;have HB0:Hid (Below w.heap.size w (w.alloc (.cells #[.int .i64 T,.int .i64 N,.slice ra R.length rc] 27))):=(ai _ _).alloc (ah _) _;have HR:Hid (aG w w.heap.size (.slice ra R.length rc) R):=hr;have HT:Hid (aY w w.heap.size (.slice ta tok.length tc) tok):=ht
 have CR:Hid (∀t∈tok,0<=t/\t<(T:Int)):=by
  intro t ht;unfold eT at hin;have:=qO.1 hin t ht;simpa using this
 have HF:Hid (dD T N R):=hf;have HW:Hid (Whole T N R K/\gZ (dF T N R K)=0):=⟨hW,hcl⟩;clear hr ht hf hW hcl hin
 go_enter Tryz.func26,Tryz.ntmps26
 go_upto_region 4 with
  (go_at_call 60
   go_loud
    (refine tf.mono ?_
     rintro e w1 ⟨hB1,ca,cc,ga,gc,rfl,IZ⟩;rw[lU]at hB1;have HB1:Hid (Below (w.heap.size+1) (w.alloc (.cells #[.int .i64 T,.int .i64 N,.slice ra R.length rc] 27)) w1):=hB1;have L9:Hid (TabAt w1 (.slice ca K cc) (.slice ga K gc) (dF T N R K) (jo T N R K)):=IZ
     clear hB1 IZ))
 have hs1:w.heap.size+1<=w1.heap.size:=by have:=HB1.out.size;simpa using this
 obtain⟨W2,hW2⟩:=af (w1.alloc (.cells #[.slice ca K cc,.slice ga K gc] 73));have hB2:Below w1.heap.size w1 W2:=by rw[<-hW2];exact(ai _ _).alloc (ah _) _
 have hBw:Below w.heap.size w W2:=(HB0.out.trans (HB1.out.mono (by omega))).trans (hB2.mono (by omega));have b0:W2.cell? ⟨w.heap.size,0,none⟩=some (.int .i64 T):=(hB2.cell (by simp only;omega)).trans ((HB1.out.cell (by simp)).trans (by simp[go_sem]));have b1:W2.cell? ⟨w.heap.size,1,none⟩=some (.int .i64 N):=(hB2.cell (by simp only;omega)).trans ((HB1.out.cell (by simp)).trans (by simp[go_sem]));have b2:W2.cell? ⟨w.heap.size,2,none⟩=some (.slice ra R.length rc):=(hB2.cell (by simp only;omega)).trans ((HB1.out.cell (by simp)).trans (by simp[go_sem]));have t0:W2.cell? ⟨w1.heap.size,0,none⟩=some (.slice ca K cc):=by rw[<-hW2];simp[go_sem]
 have t1:W2.cell? ⟨w1.heap.size,1,none⟩=some (.slice ga K gc):=by rw[<-hW2];simp[go_sem]
 rw[hW2];clear hW2
 have E:CO W2 ⟨W2.heap.size+1,T,N,.slice ra R.length rc,.slice ca K cc,.slice ga K gc,.slice ta tok.length tc⟩ R tok (dF T N R K) (jo T N R K):=
  ⟨(HR.out.below hBw).mono hBw.size,(HT.out.below hBw).mono hBw.size,L9.out.below hB2⟩
 have M0:bJ W2 ⟨W2.heap.size+1,T,N,.slice ra R.length rc,.slice ca K cc,.slice ga K gc,.slice ta tok.length tc⟩ (.slice (some ⟨W2.heap.size,0,none⟩) 1 1) [iq] 0 0
  ((W2.alloc (.cells #[.int .i64 0,.slice none 0 0] 129)).alloc (.cells #[.int .i64 T,.int .i64 N,.slice ra R.length rc,.slice ca K cc,.slice ga K gc,.slice ta tok.length tc,.int .i64 0,.int .i64 0,.slice (some ⟨W2.heap.size,0,none⟩) 1 1] 132)):=by
  refine⟨⟨λi r hr=> ?_,λi j x y hij hx hy g h1 h2=> ?_⟩,λx hx=> ?_,((ai _ _).alloc (ah _) _).alloc (by simp) _⟩
  ·cases i with
   |ru=>
    simp only[rW,bM]at hr;subst hr;have:=sM (base:=W2.heap.size) (e:=132) (size:=9) (W2.alloc (.cells #[.int .i64 0,.slice none 0 0] 129)) #[.int .i64 T,.int .i64 N,.slice ra R.length rc,.slice ca K cc,.slice ga K gc,.slice ta tok.length tc,.int .i64 0,.int .i64 0,.slice (some ⟨W2.heap.size,0,none⟩) 1 1] 1 (by simp) (by unfold maxLen;omega) rfl;simp only[lU]at this;exact this
   |st=>
    simp only[rW,bM]at hr;subst hr;have:=sM (base:=W2.heap.size) (e:=129) (size:=2) W2 #[.int .i64 0,.slice none 0 0] 1 (ah _) (by unfold maxLen;omega) rfl;exact this.alloc _
  ·cases i<;>cases j<;>simp only[rW,bM]at hx hy<;>subst hx<;>subst hy
   ·exact hij rfl
   ·simp only[Value.ownBlock,bM]at h1 h2;omega
   ·simp only[Value.ownBlock,bM]at h1 h2;omega
   ·exact hij rfl
  ·simp only[gG]at hx
   subst hx;exact .inl ⟨rfl,rfl⟩
 have rr:=ags M0 E HF.out HW.out.1 hN HW.out.2 CR.out gJ;have lF:Hid (Below w.heap.size w W2):=hBw;clear E M0 hB2 hBw
 go_wp2_with
  (go_at_call 61;refine rr.mono ?_;rintro e w3 ⟨dv,D,a,x,rfl,hL,hA,hB⟩
   obtain⟨da,dc,hdv⟩:=hL.1.1;obtain⟨dn,hdn⟩:=af D.length;rw[hdn]at hdv;subst hdv;have EO:Hid (I4 w3 (.slice da dn dc) D/\(D,a,x)=zM (tX T N R (ax T N R K).1 (ax T N R K).2 tok)/\Below W2.heap.size W2 w3):=⟨hL,hA,hB⟩
   clear hL hA hB hdn rr)
 refine aH (v:= .tuple #[.slice da dn dc,.int .i64 a,.int .i64 x]) (by simp[results,Tryz.results26,go_sem]) rfl ?_;exact⟨_,D,a,x,rfl,EO.out.1,EO.out.2.1,lF.out.trans (EO.out.2.2.mono lF.out.size)⟩
theorem Ml(w:World):aY w w.heap.size (.slice none 0 0) []:=⟨⟨_,_,rfl⟩,λ_ hp=>absurd hp (iI _)⟩
theorem YM{w:World}{T N:Nat}{rv tv:Value}{R:List Ru}{tok:List Int}(hr:aG w w.heap.size rv R)(ht:aY w w.heap.size tv tok)(hm:aJ T N R=true):
 Calls Tryz.prog 26 #[.agg #[.int .i64 T,.int .i64 N,rv],tv] w λe w'=> ∃dv D a x,e= .returned (.tuple #[dv,.int .i64 a,.int .i64 x])/\I4 w' dv D/\Bv T N R tok (D,a,x)/\Below w.heap.size w w':=by
 have hr1:=hr.boxed (.cells #[.int .i64 T,.int .i64 N,rv] 27);have ht1:=ht.boxed (.cells #[.int .i64 T,.int .i64 N,rv] 27);by_cases gJ:30<tok.length
 ·refine(Mj hr ht (by decide) (af6 hr1 ht1 hm gJ)).mono λe w' ⟨h1,h2⟩=>⟨_,[],0,1,h1,⟨Ml _,_,_,_,rfl,ah _⟩,?_,h2⟩
  by_cases hmo:More T N R 150
  ·exact .inl ⟨hmo,rfl⟩
  ·obtain⟨K,hW,hK⟩:=IW (by omega) hmo
   have e:eZ T N R tok=1:=by simp[eZ,hm,gJ]
   exact .inr ⟨K,hW,hK,.inl ⟨by rw[e];decide,by rw[e]⟩⟩
 ·by_cases hmo:More T N R 150
  ·exact(Mj hr ht (by decide) (af7 hr1 ht1 hm (by omega) hmo)).mono λe w' ⟨h1,h2⟩=>⟨_,[],0,1,h1,⟨Ml _,_,_,_,rfl,ah _⟩,.inl ⟨hmo,rfl⟩,h2⟩
  ·obtain⟨K,hW,hK⟩:=IW (by omega) hmo
   have tf:=af8 hr1 ht1 hm (by omega) hmo;cases hin:eT T tok with
   |false=>
    have YN:eZ T N R tok=3:=by simp[eZ,hm,gJ,hin]
    refine(Mj (x:=3) hr ht (by decide) (tf.mono λe w' ⟨K',k1,k2,k3,k4⟩=> ?_)).mono λe w' ⟨h1,h2⟩=>⟨_,[],0,3,h1,⟨Ml _,_,_,_,rfl,ah _⟩,.inr ⟨K,hW,hK,.inl ⟨by rw[YN];decide,by rw[YN]⟩⟩,h2⟩
    ·rcases k4 with⟨_,k5⟩|⟨k5,_⟩|⟨k5,_⟩
     ·exact⟨k5,k3⟩
     ·rw[hin]at k5;cases k5
     ·rw[hin]at k5;cases k5
   |true=>
    have e0:eZ T N R tok=0:=by simp[eZ,hm,gJ,hin]
    by_cases hcl:gZ (dF T N R K)=0
    ·obtain⟨_,hN1,_,_,_⟩:=iD hm
     refine(agx hr ht (OI hm) hN1 hW hcl hin (by omega) (tf.mono λe w' ⟨K',k1,k2,k3,k4⟩=> ?_)).mono λe w' ⟨dv,D,a,x,h1,h2,h3,h4⟩=>⟨dv,D,a,x,h1,h2,.inr ⟨K,hW,hK,.inr (.inr ⟨e0,hcl,h3⟩)⟩,h4⟩;have:=ES k1 hW;subst this;rcases k4 with⟨k5,_⟩|⟨_,k5,_⟩|⟨_,_,k5⟩
     ·rw[hin]at k5;cases k5
     ·omega
     ·exact⟨k3,k5⟩
    ·refine(Mj (x:=4) hr ht (by decide) (tf.mono λe w' ⟨K',k1,k2,k3,k4⟩=> ?_)).mono λe w' ⟨h1,h2⟩=>⟨_,[],0,4,h1,⟨Ml _,_,_,_,rfl,ah _⟩,.inr ⟨K,hW,hK,.inr (.inl ⟨e0,by omega,rfl⟩)⟩,h2⟩
     have:=ES k1 hW;subst this;rcases k4 with⟨k5,_⟩|⟨_,_,k5⟩|⟨_,k5,_⟩
     ·rw[hin]at k5;cases k5
     ·exact⟨k5,k3⟩
     ·exact absurd k5 hcl
def kS(p:bW)(tok:List Int)(o:List UInt8):Prop:=
 (eZ p.T p.N p.R tok≠0/\o=bY [98,97,100] [eZ p.T p.N p.R tok])\/(eZ p.T p.N p.R tok=0/\((nQ p.R 0 tok/\o=[121,101,115])\/(¬nQ p.R 0 tok/\o=[110,111])))
def qm(a:List Int×Int×Int):List UInt8:=if a.2.2≠0 then bY [98,97,100] [a.2.2] else if 0<=a.2.1 then bY [97,116] [a.2.1] else bY [105,115] a.1
def nC(p:bW)(tok:List Int)(o:List UInt8):Prop:=∃a,Bv p.T p.N p.R tok a/\o=qm a
theorem kS.one{p:bW}{tok:List Int}{o o':List UInt8}(h:kS p tok o)(k:kS p tok o'):o=o':=by
 rcases h with⟨h1,h2⟩|⟨h1,⟨h2,h3⟩|⟨h2,h3⟩⟩<;>rcases k with⟨k1,k2⟩|⟨k1,⟨k2,k3⟩|⟨k2,k3⟩⟩
 ·rw[h2,k2]
 ·exact absurd k1 h1
 ·exact absurd k1 h1
 ·exact absurd h1 k1
 ·rw[h3,k3]
 ·exact absurd h2 k2
 ·exact absurd h1 k1
 ·exact absurd k2 h2
 ·rw[h3,k3]
theorem nC.one{p:bW}{tok:List Int}{o o':List UInt8}(h:nC p tok o)(k:nC p tok o'):o=o':=by
 obtain⟨a,h1,rfl⟩:=h;obtain⟨b,k1,rfl⟩:=k;rw[h1.one k1]
theorem Mq(T N:Int)(R:List Ru)(tok:List Int):eY (eZ T N R tok):=by
 unfold eZ eY
 repeat' split
 all_goals omega
theorem YO(T N:Nat)(R:List Ru)(tok:List Int):∃z,Bv T N R tok z:=by
 by_cases hM:More T N R 150
 ·exact⟨_,.inl ⟨hM,rfl⟩⟩
 ·obtain⟨K,hW,hK⟩:=IW (by omega) hM
  by_cases hw:eZ T N R tok=0
  ·by_cases hc:gZ (dF T N R K)=0
   ·exact⟨_,.inr ⟨K,hW,hK,.inr (.inr ⟨hw,hc,rfl⟩)⟩⟩
   ·exact⟨_,.inr ⟨K,hW,hK,.inr (.inl ⟨hw,by omega,rfl⟩)⟩⟩
  ·exact⟨_,.inr ⟨K,hW,hK,.inl ⟨hw,rfl⟩⟩⟩
theorem agy{R:List Ru}:∀(k:Nat) (n:Int) (d Z:List Int),zJ R k n d Z->∀x∈d,0<=x/\x<(R.length:Int):=by
 intro k
 induction k with
 |zero=>intro n d Z h;exact h.elim
 |succ k ih=>
  intro n d Z h;obtain⟨q,hq,_,d',rfl,hs⟩:=h
  have key:∀(l:List Sy) (d Z:List Int),qj (zJ R k) l d Z->∀x∈d,0<=x/\x<(R.length:Int):=by
   intro l
   induction l with
   |nil=>
    intro d Z h x hx;rw[h.1]at hx;cases hx
   |cons s l ih2=>
    intro d Z h x hx;obtain⟨b,v⟩:=s;cases b with
    |true=>
     obtain⟨Z',_,h2⟩:=h;exact ih2 _ _ h2 x hx
    |false=>
     obtain⟨d1,d2,Z1,Z2,rfl,_,h1,h2⟩:=h;rcases iV.1 hx with hx|hx
     ·exact ih _ _ _ h1 x hx
     ·exact ih2 _ _ h2 x hx
  intro x hx;rcases iW.1 hx with hx|hx
  ·rw[hx];omega
  ·exact key _ _ _ hs x hx
theorem QS{T N:Nat}{R:List Ru}{tok:List Int}{a:List Int×Int×Int}(hm:aJ T N R=true)(h:Bv T N R tok a):eY a.2.2/\eY a.2.1/\a.1.length<=400/\∀x∈a.1,eY x:=by
 have z0:eY 0:=⟨by omega,by omega⟩;have zn:∀x∈([]:List Int),eY x:=λx hx=>by cases hx
 rcases h with⟨_,rfl⟩|⟨K,h1,_,⟨_,rfl⟩|⟨_,_,rfl⟩|⟨h3,h4,rfl⟩⟩
 ·exact⟨show eY 1 from ⟨by omega,by omega⟩,z0,by simp,zn⟩
 ·exact⟨Mq _ _ _ _,z0,by simp,zn⟩
 ·exact⟨show eY 4 from ⟨by omega,by omega⟩,z0,by simp,zn⟩
 ·obtain⟨gJ,hin⟩:=L8 hm h3
  have hR:=(iD hm).2.2.2.1;obtain⟨k1,k2⟩:=Yl (Qt (OI hm) h1 (QB h1)) (Yo hin) (tok.length+402) Qz Qv rfl;cases he:tX T N R (ax T N R K).1 (ax T N R K).2 tok with
  |done d=>
   obtain⟨⟨k,hk⟩,hl⟩:=k1 d he;refine⟨z0,show eY (-1) from ⟨by omega,by omega⟩,hl,λx hx=> ?_⟩;have:=agy k _ _ _ hk x hx;exact⟨by omega,by omega⟩
  |none n=>
   have:=k2 n he;exact⟨z0,show eY (n:Int) from ⟨by omega,by omega⟩,by simp[zM],zn⟩
  |size=>exact⟨show eY 1 from ⟨by omega,by omega⟩,z0,by simp[zM],zn⟩
section
variable{w w':World}{pb B G:Nat}{rv:Value}{p:bW}
theorem agz{ta:Option Addr}{tc:Nat}{tok:List Int}(h:bR w pb B rv p)(hE:dR G w)(hG:G<=pb)(hm:aJ p.T p.N p.R=true)(ht:aY w w.heap.size (.slice ta tok.length tc) tok):Calls Tryz.prog 71 #[.pointer (some ⟨pb,0,none⟩),.slice ta tok.length tc] w λe w'=> ∃o,kS p tok o/\e= .returned (.string ⟨o.toArray⟩)/\Below w.heap.size w w':=by
 obtain⟨c0,c1,c2,-⟩:=h.cells;obtain⟨ra,rc,aI⟩:=h.rules.at.1;subst aI;have hpb:=h.below;by_cases hw:eZ p.T p.N p.R tok=0
 ·obtain⟨gJ,hin⟩:=L8 hm hw
  have hr:=Vg (T:=p.T) (N:=p.N) h.rules.at ht hm gJ hin;by_cases hD:nQ p.R 0 tok
  ·have hr':Calls Tryz.prog 25 #[.agg #[.int .i64 p.T,.int .i64 p.N,.slice ra p.R.length rc],.slice ta tok.length tc] w λe w'=>e= .returned (.tuple #[.bool true,.int .i64 0])/\Below w.heap.size w w':=
    hr.mono λe w' ⟨z,h1,h2,h3⟩=>⟨by rw[h1,h2.2 hD],h3⟩
   have HO:Hid (kS p tok [121,101,115]):= .inr ⟨hw,.inl ⟨hD,rfl⟩⟩;clear h hE hm ht hw gJ hin hr hD
   go_enter Tryz.func71,Tryz.ntmps71
   go_wp2_with
    (go_at_call 25;refine hr'.mono ?_;rintro e w2 ⟨rfl,h2⟩
     have H2:Hid (Below w.heap.size w w2):=h2
     clear hr' h2)
   go_ret;exact⟨_,HO.out,rfl,H2.out⟩
  ·have hr':Calls Tryz.prog 25 #[.agg #[.int .i64 p.T,.int .i64 p.N,.slice ra p.R.length rc],.slice ta tok.length tc] w λe w'=>e= .returned (.tuple #[.bool false,.int .i64 0])/\Below w.heap.size w w':=
    hr.mono λe w' ⟨z,h1,h2,h3⟩=>⟨by
     cases z with
     |true=>exact absurd (h2.1 rfl) hD
     |false=>exact h1,h3⟩
   have HO:Hid (kS p tok [110,111]):= .inr ⟨hw,.inr ⟨hD,rfl⟩⟩;clear h hE hm ht hw gJ hin hr hD
   go_enter Tryz.func71,Tryz.ntmps71
   go_wp2_with
    (go_at_call 25;refine hr'.mono ?_;rintro e w2 ⟨rfl,h2⟩
     have H2:Hid (Below w.heap.size w w2):=h2
     clear hr' h2)
   go_ret;exact⟨_,HO.out,rfl,H2.out⟩
 ·have hr:=Vf (T:=p.T) (N:=p.N) h.rules.at ht hw
  have hx:=Mq p.T p.N p.R tok;have HO:Hid (kS p tok (bY [98,97,100] [eZ p.T p.N p.R tok])):= .inl ⟨hw,rfl⟩;obtain⟨x,Jc⟩:=af (eZ p.T p.N p.R tok);rw[Jc]at hr hx HO hw
  have HT:Hid (∀wq,Below w.heap.size w wq->Calls Tryz.prog 65 #[.string ⟨#[98,97,100]⟩,.slice (some ⟨wq.heap.size,0,none⟩) 1 1] (wq.alloc (.cells #[.int .i64 x] 3)) λe w'=>e= .returned (.string ⟨(bY [98,97,100] [x]).toArray⟩)/\Below wq.heap.size wq w'):=λwq hq=>
   Am (u:=[98,97,100]) (by simp) (hE.below hq (by omega)) (by have:=hq.size;omega) hx
  have b1:(x==0)=false:=by simpa using hw
  clear h hE hm ht Jc hx hw
  go_enter Tryz.func71,Tryz.ntmps71
  go_wp2_with
   (first
    |(go_at_call 25;refine hr.mono ?_;rintro e w2 ⟨rfl,h2⟩
      have td:=HT.out w2 h2;have H2:Hid (Below w.heap.size w w2):=h2
      clear hr h2)
    |(go_at_call 65;refine td.mono ?_;rintro e w4 ⟨rfl,h4⟩
      have H4:Hid (Below w.heap.size w w4):=H2.out.trans (h4.mono H2.out.size)
      clear td h4))
  go_ret;exact⟨_,HO.out,rfl,H4.out⟩
theorem agA{ta:Option Addr}{tc:Nat}{tok:List Int}(h:bR w pb B rv p)(hE:dR G w)(hG:G<=pb)(hm:aJ p.T p.N p.R=true)(ht:aY w w.heap.size (.slice ta tok.length tc) tok):Calls Tryz.prog 73 #[.pointer (some ⟨pb,0,none⟩),.slice ta tok.length tc] w λe w'=> ∃o,nC p tok o/\e= .returned (.string ⟨o.toArray⟩)/\Below w.heap.size w w':=by
 obtain⟨c0,c1,c2,-⟩:=h.cells;obtain⟨ra,rc,aI⟩:=h.rules.at.1;subst aI;have hpb:=h.below;obtain⟨⟨D,a,x⟩,hP⟩:=YO p.T p.N p.R tok;obtain⟨hx,ha,hDl,CS⟩:=QS hm hP
 have pa:Calls Tryz.prog 26 #[.agg #[.int .i64 p.T,.int .i64 p.N,.slice ra p.R.length rc],.slice ta tok.length tc] w λe w'=> ∃da dc,e= .returned (.tuple #[.slice da D.length dc,.int .i64 a,.int .i64 x])/\aY w' w'.heap.size (.slice da D.length dc) D/\Below w.heap.size w w':=by
  refine(YM (T:=p.T) (N:=p.N) h.rules.at ht hm).mono λe w' ⟨dv,D',a',x',h1,h2,h3,h4⟩=> ?_;have:=h3.one hP;simp only[qx]at this;obtain⟨rfl,rfl,rfl⟩:=this;obtain⟨da,dc,rfl⟩:=h2.1.1;exact⟨da,dc,h1,h2.1,h4⟩
 have HO:Hid (nC p tok (qm (D,a,x))):=⟨_,hP,rfl⟩;simp only at hx ha hDl CS;have HE:Hid (dR G w/\G<=pb/\pb<w.heap.size/\D.length<=400/\∀x∈D,eY x):=⟨hE,hG,hpb,hDl,CS⟩
 have HT:Hid (∀(u:List UInt8) (y:Int) wq,u.length<=1000->eY y->Below w.heap.size w wq->Calls Tryz.prog 65 #[.string ⟨u.toArray⟩,.slice (some ⟨wq.heap.size,0,none⟩) 1 1] (wq.alloc (.cells #[.int .i64 y] 3)) λe w'=>e= .returned (.string ⟨(bY u [y]).toArray⟩)/\Below wq.heap.size wq w'):=λu y wq hu hy hq=>
  Am hu (HE.out.1.below hq (by have:=HE.out;omega)) (by have:=hq.size;have:=HE.out;omega) hy
 clear h hE hm ht hP hDl CS;by_cases hx0:x=0
 ·subst hx0
  by_cases ha0:0<=a
  ·have hO:qm (D,a,(0:Int))=bY [97,116] [a]:=by simp[qm,ha0]
   rw[hO]at HO;have d1:decide (0<=a)=true:=aT ha0;clear hO
   go_enter Tryz.func73,Tryz.ntmps73
   go_wp2_with
    (first
     |(go_at_call 26;refine pa.mono ?_;rintro e w2 ⟨da,dc,rfl,-,h2⟩
       have td:=HT.out [97,116] a w2 (by simp) ha h2;have H2:Hid (Below w.heap.size w w2):=h2
       clear pa h2)
     |(go_at_call 65;refine td.mono ?_;rintro e w4 ⟨rfl,h4⟩
       have H4:Hid (Below w.heap.size w w4):=H2.out.trans (h4.mono H2.out.size)
       clear td h4))
   go_ret;exact⟨_,HO.out,rfl,H4.out⟩
  ·have hO:qm (D,a,(0:Int))=bY [105,115] D:=by simp[qm,ha0]
   rw[hO]at HO;have d1:decide (0<=a)=false:=aU ha0;clear hO
   go_enter Tryz.func73,Tryz.ntmps73
   go_wp2_with
    (first
     |(go_at_call 26;refine pa.mono ?_;rintro e w2 ⟨da,dc,rfl,h3,h2⟩
       have td:=Ta (u:=[105,115]) (by simp) (HE.out.1.below h2 (by have:=HE.out;omega)) (by have:=h2.size;have:=HE.out;omega) h3 (by have:=HE.out.2.2.2.1;omega) HE.out.2.2.2.2;have H2:Hid (Below w.heap.size w w2):=h2
       clear pa h2 h3)
     |(go_at_call 65;refine td.mono ?_;rintro e w4 ⟨rfl,h4⟩
       have H4:Hid (Below w.heap.size w w4):=H2.out.trans (h4.mono H2.out.size)
       clear td h4))
   go_ret;exact⟨_,HO.out,rfl,H4.out⟩
 ·have hO:qm (D,a,x)=bY [98,97,100] [x]:=by simp[qm,hx0]
  rw[hO]at HO;have b1:(x==0)=false:=by simpa using hx0
  clear hO hx0
  go_enter Tryz.func73,Tryz.ntmps73
  go_wp2_with
   (first
    |(go_at_call 26;refine pa.mono ?_;rintro e w2 ⟨da,dc,rfl,-,h2⟩
      have td:=HT.out [98,97,100] x w2 (by simp) hx h2;have H2:Hid (Below w.heap.size w w2):=h2
      clear pa h2)
    |(go_at_call 65;refine td.mono ?_;rintro e w4 ⟨rfl,h4⟩
      have H4:Hid (Below w.heap.size w w4):=H2.out.trans (h4.mono H2.out.size)
      clear td h4))
  go_ret;exact⟨_,HO.out,rfl,H4.out⟩
end
def uh(p:bW)(o:List UInt8):Prop:=(More p.T p.N p.R 150/\o=bY [98,97,100] [1])\/∃K,Whole p.T p.N p.R K/\K<=150/\o=iB [(K:Int),gZ (dF p.T p.N p.R K)]
theorem uh.one{p:bW}{o o':List UInt8}(h:uh p o)(k:uh p o'):o=o':=by
 rcases h with⟨h1,h2⟩|⟨K,h1,h2,h3⟩<;>rcases k with⟨k1,k2⟩|⟨K',k1,k2,k3⟩
 ·rw[h2,k2]
 ·exact absurd h1 (AP k1 k2)
 ·exact absurd k1 (AP h1 h2)
 ·rw[h3,k3,ES h1 k1]
theorem YP(w:World)(x y:Int):aY (w.alloc (.cells #[.int .i64 x,.int .i64 y] 3)) (w.alloc (.cells #[.int .i64 x,.int .i64 y] 3)).heap.size (.slice (some ⟨w.heap.size,0,none⟩) 2 2) [x,y]:=by
 refine⟨⟨_,_,rfl⟩,λp hp=> ?_⟩;have hp':p=0\/p=1:=by simp at hp;omega
 rcases hp' with rfl|rfl
 ·exact⟨w.heap.size,0,2,rfl,by simp,ay (heap_alloc_new w _) rfl⟩
 ·exact⟨w.heap.size,0,2,rfl,by simp,ay (heap_alloc_new w _) rfl⟩
theorem QT{T N:Nat}{R:List Ru}{K:Nat}(hm:aJ T N R=true)(hK:K<=150):(dF T N R K).length<=1000/\(∀i,i<(dF T N R K).length->((dF T N R K).getD i []).length<=1000)/\∀i k,i<(dF T N R K).length->k<((dF T N R K).getD i []).length->(((dF T N R K).getD i []).getD k (0,[],false)).2.1.length<=1000:=by
 obtain⟨hT,_,_,hR,_⟩:=iD hm;refine⟨by rw[uU];omega,λi hi=>by rw[uU]at hi;rw[zL hi,IU];omega,λi k hi hk=> ?_⟩;rw[uU]at hi;rw[zL hi,IU]at hk;rw[zL hi,QA (by omega)];unfold cellP;simp only[cK];have:=vv (λn=> @decide (AY T N R (ax T N R K).1 (ax T N R K).2 i k n) (Classical.propDecidable _)) (List.range R.length);rw[qR]at this;omega
theorem QU{T N:Nat}{R:List Ru}{K:Nat}(hm:aJ T N R=true)(hK:K<=150):eY (gZ (dF T N R K)):=by
 obtain⟨h1,h2,_⟩:=QT hm hK;have:=VB h2;rw[uU]at this;exact⟨by omega,by omega⟩
section
variable{w w':World}{pb B G:Nat}{rv:Value}{p:bW}
theorem agB(h:bR w pb B rv p)(hE:dR G w)(hG:G<=pb)(hm:aJ p.T p.N p.R=true):Calls Tryz.prog 37 #[.pointer (some ⟨pb,0,none⟩)] w λe w'=> ∃o,uh p o/\e= .returned (.string ⟨o.toArray⟩)/\Below w.heap.size w w':=by
 obtain⟨c0,c1,c2,-⟩:=h.cells;obtain⟨ra,rc,aI⟩:=h.rules.at.1;subst aI;have hpb:=h.below;have HE:Hid (dR G w/\G<=pb/\pb<w.heap.size):=⟨hE,hG,hpb⟩;have tk:=Qo (T:=p.T) (N:=p.N) h.rules.at hm;by_cases hM:More p.T p.N p.R 150
 ·have wm:Calls Tryz.prog 22 #[.agg #[.int .i64 p.T,.int .i64 p.N,.slice ra p.R.length rc]] w λe w'=>e= .returned (.tuple #[.agg #[.slice none 0 0,.slice none 0 0],.int .i64 1])/\Below w.heap.size w w':=
   tk.mono λe w' h=>by
    rcases h with⟨h1,h2,_⟩|⟨K,cv,gv,_,_,h3,h4,_⟩
    ·exact⟨h1,h2⟩
    ·exact absurd hM (AP h3 h4)
  have HO:Hid (uh p (bY [98,97,100] [1])):= .inl ⟨hM,rfl⟩
  have HT:Hid (∀wq,Below w.heap.size w wq->Calls Tryz.prog 65 #[.string ⟨#[98,97,100]⟩,.slice (some ⟨wq.heap.size,0,none⟩) 1 1] (wq.alloc (.cells #[.int .i64 1] 3)) λe w'=>e= .returned (.string ⟨(bY [98,97,100] [1]).toArray⟩)/\Below wq.heap.size wq w'):=λwq hq=>
   Am (u:=[98,97,100]) (by simp) (HE.out.1.below hq (by have:=HE.out;omega)) (by have:=hq.size;have:=HE.out;omega) ⟨by omega,by omega⟩
  clear h hE hm tk hM
  go_enter Tryz.func37,Tryz.ntmps37
  go_upto_region 2 with
   (go_at_call 22;refine wm.mono ?_;rintro e w2 ⟨rfl,h2⟩
    clear wm)
  obtain⟨q,hq⟩:=af w2.heap.size;obtain⟨W3,hW⟩:=af (w2.alloc (.cells #[.slice none 0 0,.slice none 0 0] 73));have h3:Below w.heap.size w W3:=by rw[<-hW];exact h2.alloc h2.size _
  rw[hW];rw[hq];have td:=HT.out W3 h3;have H3:Hid (Below w.heap.size w W3):=h3;clear h2 hq hW h3
  go_wp2_with
   (go_at_call 65;refine td.mono ?_;rintro e w4 ⟨rfl,h4⟩
    have H4:Hid (Below w.heap.size w w4):=H3.out.trans (h4.mono H3.out.size)
    clear td h4)
  go_ret;exact⟨_,HO.out,rfl,H4.out⟩
 ·obtain⟨K,hW,hK⟩:=IW (by omega) hM
  have wm:Calls Tryz.prog 22 #[.agg #[.int .i64 p.T,.int .i64 p.N,.slice ra p.R.length rc]] w λe w'=> ∃ca cc gv,e= .returned (.tuple #[.agg #[.slice ca K cc,gv],.int .i64 0])/\Below w.heap.size w w'/\TabAt w' (.slice ca K cc) gv (dF p.T p.N p.R K) (jo p.T p.N p.R K):=
   tk.mono λe w' h=>by
    rcases h with⟨_,_,h3⟩|⟨K',cv,gv,h1,h2,h3,h4,h5⟩
    ·exact absurd h3 hM
    ·obtain rfl:=ES hW h3
     obtain⟨ca,cc,hcv⟩:=h5.cells.1;rw[uU]at hcv;subst hcv;exact⟨ca,cc,gv,h1,h2,h5⟩
  obtain⟨s1,s2,s3⟩:=QT hm hK;have hcl:=QU hm hK;obtain⟨cn,hcn⟩:=af (gZ (dF p.T p.N p.R K));have HO:Hid (uh p (iB [(K:Int),cn])):= .inr ⟨K,hW,hK,by rw[hcn]⟩
  have HC:Hid (∀wq cv gv,TabAt wq cv gv (dF p.T p.N p.R K) (jo p.T p.N p.R K)->Calls Tryz.prog 23 #[.agg #[cv,gv]] wq λe w'=>e= .returned (.int .i64 cn)/\Below wq.heap.size wq w'):=λwq cv gv ht=>by
   have:=Qq ht s1 s2 s3;rw[hcn]at this;exact this
  rw[hcn]at hcl
  have HT:Hid (∀wq,Below w.heap.size w wq->Calls Tryz.prog 68 #[.slice (some ⟨wq.heap.size,0,none⟩) 2 2] (wq.alloc (.cells #[.int .i64 (K:Int),.int .i64 cn] 3)) λe w'=>e= .returned (.string ⟨(iB [(K:Int),cn]).toArray⟩)/\Below wq.heap.size wq w'):=λwq hq=>by
   have hb:Below wq.heap.size wq (wq.alloc (.cells #[.int .i64 (K:Int),.int .i64 cn] 3)):=(ai _ _).alloc (ah _) _;have hG2:G<=wq.heap.size:=by have:=hq.size;have:=HE.out;omega
   exact(F3 ((HE.out.1.below hq (by have:=HE.out;omega)).below hb hG2) (aZ hG2 hb.size) (YP wq K cn) (by simp) (λy hy=>by
    rcases iW.1 hy with hy|hy
    ·rw[hy];exact⟨by omega,by omega⟩
    ·rw[gG.1 hy];exact hcl)).mono λe w' ⟨h1,h2⟩=>⟨h1,hb.trans (h2.mono hb.size)⟩
  clear h hE hm tk hM hW hcn hcl s1 s2 s3
  go_enter Tryz.func37,Tryz.ntmps37
  go_upto_region 2 with
   (go_at_call 22;refine wm.mono ?_;rintro e w2 ⟨ca,cc,gv,rfl,h2,h5⟩
    obtain⟨ga,gc,hgv⟩:=h5.goto.1;subst hgv
    clear wm)
  obtain⟨gn,hgn⟩:=af ((jo p.T p.N p.R K).length);rw[hgn]at h5;rw[hgn];obtain⟨q,hq⟩:=af w2.heap.size;obtain⟨W3,hW⟩:=af (w2.alloc (.cells #[.slice ca K cc,.slice ga gn gc] 73));have hb3:Below w2.heap.size w2 W3:=by rw[<-hW];exact(ai _ _).alloc (ah _) _
  have hx3:=heap_alloc_new w2 (.cells #[.slice ca K cc,.slice ga gn gc] 73);rw[hW,hq]at hx3;rw[hW];rw[hq];have h3:=h2.trans (hb3.mono h2.size)
  have HS:Hid (∀wq,Below W3.heap.size W3 wq->(wq.cell? ⟨q,0,none⟩=some (.slice ca K cc)/\wq.cell? ⟨q,1,none⟩=some (.slice ga gn gc))/\Below w.heap.size w wq/\TabAt wq (.slice ca K cc) (.slice ga gn gc) (dF p.T p.N p.R K) (jo p.T p.N p.R K)):=λwq hw=>by
   have hy:=(hw.block _ (dx.1 hx3).1).trans hx3;exact⟨⟨ay hy rfl,ay hy rfl⟩,h3.trans (hw.mono h3.size),(h5.below hb3).below hw⟩
  clear h2 h3 h5 hgn hq hW hb3 hx3
  go_upto_region 4 with fail
  obtain⟨Wd,hWd⟩:=af W3.drew;have hBd:Below W3.heap.size W3 Wd:=by rw[<-hWd];exact(ai _ _).drew
  obtain⟨S0,-,rX⟩:=HS.out Wd hBd;have cl:=HC.out Wd _ _ rX;have dz:Hid (Below W3.heap.size W3 Wd):=hBd;clear hBd rX;refine mK [0,1,2,3] 4 7 (λwq=>wq.cell? ⟨q,0,none⟩=some (.slice ca K cc)/\wq.cell? ⟨q,1,none⟩=some (.slice ga gn gc)) (by kernel_rfl) (by kernel_rfl) (by rw[hWd];exact S0) ?_;rw[hWd];clear hWd S0
  iterate 4
   refine aW.yT (v:= ?_) rfl (by rfl) ?_ ?_;rotate_left
   ·intro w' hSw
    obtain⟨z0,z1⟩:=hSw
    go_simp
    try with_reducible rfl
   simp only[Act.put,eB,List.set_cons_zero,List.set_cons_succ]
  rw[aW];refine aC.one (i:=4) (by kernel_rfl) ⟨_,rfl,λK' hK'=> ?_⟩
  go_simp
  refine cl.mono ?_;rintro e w4 ⟨rfl,h4⟩;dsimp only;have hb4:=dz.out.trans (h4.mono dz.out.size);have dg:=HT.out w4 (HS.out w4 hb4).2.1;have S5:=HS.out (w4.alloc (.cells #[.int .i64 (K:Int),.int .i64 (cn:Int)] 3)) (hb4.alloc hb4.size _);refine hK'.out _ _ (λ_=>(HS.out w4 hb4).1) ?_;have H4:Hid (Below W3.heap.size W3 w4):=hb4;clear hK' cl h4 hb4;refine aC.one (i:=5) (by kernel_rfl) ⟨_,rfl,λK' hK'=> ?_⟩
  go_simp
  refine hK'.out _ _ (λ_=>S5.1) ?_;clear hK';refine aC.one (i:=6) (by kernel_rfl) ⟨_,rfl,λK' hK'=> ?_⟩
  go_simp
  refine dg.mono ?_;rintro e w6 ⟨rfl,h6⟩;dsimp only;have hb6:=H4.out.trans (h6.mono H4.out.size);refine hK'.out _ _ (λ_=>(HS.out w6 hb6).1) ?_;have H6:Hid (Below w.heap.size w w6):=(HS.out w6 hb6).2.1;clear hK' dg h6 hb6 S5;refine aC.last (i:=7) (by kernel_rfl) ⟨_,rfl,λK' hK'=> ?_⟩
  go_simp
  refine hK'.out _ _ (λh=>absurd h (by omega)) (NoPanic.normal ?_);clear hK'
  go_wp2_with fail
  go_ret;exact⟨_,HO.out,rfl,H6.out⟩
end
end Go.Proofs.YthbifaoaiggooaaGreatDoor
namespace Go.Proofs.YthbifaoaiggooaaGreatDoor
def fF(X:List Bool)(l:List Sy):Bool:=l.all λs=>s.1||X.getD s.2.toNat false
theorem YQ(X:List Bool)(l:List Sy)(i:Nat)(h:i<l.length):fF X (l.take (i+1))=(fF X (l.take i)&&((l.getD i (false,0)).1||X.getD (l.getD i (false,0)).2.toNat false)):=by
 unfold fF;rw[fT h,zZ];simp[List.getD,h]
theorem agC(X:List Bool)(l:List Sy)(i:Nat)(h:i<l.length)(hb:((l.getD i (false,0)).1||X.getD (l.getD i (false,0)).2.toNat false)=false):fF X l=false:=by
 unfold fF;rw[FH];refine⟨l[i],jO h,?_⟩;have e:l.getD i (false,0)=l[i]:=by simp[List.getD,h]
 rw[e]at hb;rw[hb];simp
end Go.Proofs.YthbifaoaiggooaaGreatDoor
namespace Go.Proofs.YthbifaoaiggooaaGreatDoor
open Go.RowKit
def Mr(R:List Ru)(i:Nat)(X:List Bool):List Bool:=if fF X (R.getD i (0,[])).2 then X.set (R.getD i (0,[])).1.toNat true else X
def uX(R:List Ru)(N:Nat):List Bool:=bf N (λ_=>bf R.length (Mr R)) (List.replicate N false)
def QV(l:List Sy)(k:Nat)(Y:List Bool):List Bool:=if (l.getD k (false,0)).1 then Y else Y.set (l.getD k (false,0)).2.toNat true
def Ms(R:List Ru)(Mk:List Bool)(i:Nat)(X:List Bool):List Bool:=
 if X.getD (R.getD i (0,[])).1.toNat false&&fF Mk (R.getD i (0,[])).2 then bf (R.getD i (0,[])).2.length (QV (R.getD i (0,[])).2) X else X
def Mt(R:List Ru)(N:Nat):List Bool:=bf N (λ_=>bf R.length (Ms R (uX R N))) ((List.replicate N false).set 0 ((uX R N).getD 0 false))
end Go.Proofs.YthbifaoaiggooaaGreatDoor
namespace Go.Proofs.YthbifaoaiggooaaGreatDoor
structure Stp where
 op:Int
 a:Int
 b:Int
 c:Int
def zP(r:Ru):Bool:=decide (0<r.2.length)&& !(r.2.getD 0 (false,0)).1&&decide ((r.2.getD 0 (false,0)).2=r.1)
def kT(a:Int)(r:Ru):Bool:=decide (r.1=a)&&zP r
def uj(R:List Ru)(a:Int):Bool:=R.any (kT a)&&R.all λr=> !(kT a r&&decide (r.2.length=1))
def bK(N:Int)(R:List Ru)(s:Stp):Bool:=
 let r:=R.getD s.a.toNat (0,[])
 let rule:=decide (0<=s.a)&&decide (s.a<(R.length:Int))
 if s.op=1 then decide (1<=s.a)&&decide (s.a<N)&&decide (1<=s.b)&&decide (s.b<N)&&decide (s.c=0)
 else if s.op=2 then rule&&decide (0<=s.b)&&decide (s.b<s.c)&&decide (s.c<=(r.2.length:Int))
 else if s.op=3 then rule&&decide (0<=s.b)&&decide (s.b<(r.2.length:Int))&&decide (s.c=0)&& !(r.2.getD s.b.toNat (false,0)).1&& !decide ((r.2.getD s.b.toNat (false,0)).2=r.1)
 else if s.op=4 then decide (s.b=0)&&decide (s.c=0)&&uj R s.a
 else if s.op=5 then decide (s.a=0)&&decide (s.b=0)&&decide (s.c=0)
 else false
def wu(a b n:Int):Int:=if n=a then b else if n=b then a else n
def CU(a b:Int)(x:Sy):Sy:=if x.1 then x else (false,wu a b x.2)
def uY(N:Nat)(R:List Ru)(r:Ru):Bool:=(uX R N).getD r.1.toNat false&&(Mt R N).getD r.1.toNat false&&fF (uX R N) r.2
def YR(b:Nat)(r x:Ru):Ru:=(r.1,r.2.take b++x.2++r.2.drop (b+1))
def EZ(N:Nat)(R:List Ru)(s:Stp)(k:Nat):List Ru:=
 let r:=R.getD k (0,[])
 if s.op=1 then [(wu s.a s.b r.1,r.2.map (CU s.a s.b))]
 else if s.op=2 then [if (k:Int)=s.a then (r.1,r.2.take s.b.toNat++(false,(N:Int))::r.2.drop s.c.toNat) else r]
 else if s.op=3 then (if (k:Int)=s.a then (R.filter λx=>decide (x.1=(r.2.getD s.b.toNat (false,0)).2)).map (YR s.b.toNat r) else [r])
 else if s.op=4 then [if r.1=s.a then (if zP r then ((N:Int),r.2.drop 1++[(false,(N:Int))]) else (r.1,r.2++[(false,(N:Int))])) else r]
 else if s.op=5 then (if uY N R r then [r] else [])
 else [r]
def BD(N:Nat)(R:List Ru)(s:Stp):List Ru:=
 if s.op=2 then [((N:Int),((R.getD s.a.toNat (0,[])).2.take s.c.toNat).drop s.b.toNat)] else if s.op=4 then [((N:Int),[])] else []
def je(N:Nat)(R:List Ru)(s:Stp):List Ru:=(List.range R.length).flatMap (EZ N R s)++BD N R s
def nX(N:Nat)(s:Stp):Nat:=if s.op=2 then N+1 else if s.op=4 then N+1 else N
end Go.Proofs.YthbifaoaiggooaaGreatDoor
namespace Go.Proofs.YthbifaoaiggooaaGreatDoor
open Go.RowKit
theorem aW.zQ{P:Program}{ops:Array Oper}{S:World->Prop}{K:Act->Prop}{i:Nat}{o:Oper}{l:List Nat}{a:Act}{v:Value}(ho:ops.toList[i]?=some o)(hw:Region.wanted o (yielded ops a.tmps)=true)(hy:∀w,S w->(execOp a.eval o).run P w= .ok (.value v) w)(h:aW P ops S K l (a.put o.dst v)):aW P ops S K (i::l) a:=
 aW.cons (by simpa using ho) hw hy h
def rY(s:Sy):List Value:=[.bool s.1,.int .i64 s.2]
def bD(l:List Sy):List Value:=l.flatMap rY
section
variable{l m:List Sy}
theorem YS(l:List Sy):(bD l).length=l.length*2:=by
 unfold bD
 induction l with
 |nil=>rfl
 |cons a L ih=>rw[gV,aS,ih];simp[rY];omega
theorem E5{i j:Nat}(hi:i<l.length)(hj:j<2):(bD l)[i*2+j]?=(rY (l.getD i (false,0)))[j]?:=by
 unfold bD
 induction l generalizing i with
 |nil=>simp at hi
 |cons a L ih=>
  rw[gV];cases i with
  |zero=>rw[vo (by simp[rY];omega)];simp
  |succ i=>
   rw[o9 (by simp[rY];omega)];simp only[rY,List.length_cons,List.length_nil];rw[show (i+1)*2+j-(0+1+1)=i*2+j by omega];have:=ih (i:=i) (by simpa using hi);simpa [List.getD,rY] using this
theorem YT(l m:List Sy):bD (l++m)=bD l++bD m:=by simp[bD]
theorem agD(l:List Sy):∀u∈bD l,u.oneCell'=true:=λu hu=>by
 unfold bD at hu;obtain⟨x,_,hu⟩:=Aa.1 hu;simp only[rY,iW,wS,wY]at hu;rcases hu with rfl|rfl<;>rfl
theorem agE{i:Nat}{v:Int}(hi:i<l.length):(bD l).set (i*2+1) (.int .i64 v)=bD (l.set i ((l.getD i (false,0)).1,v)):=by
 unfold bD
 induction l generalizing i with
 |nil=>simp at hi
 |cons a L ih=>
  cases i with
  |zero=>simp[rY]
  |succ i=>
   have:=ih (i:=i) (by simpa using hi);rw[gV,List.set_cons_succ,gV,yI _ _ (by simp[rY];omega)];simp only[rY,List.length_cons,List.length_nil]at this⊢;rw[show (i+1)*2+1-(0+1+1)=i*2+1 by omega,this];simp[List.getD]
end
def rZ(w:World)(A:Nat->Prop)(v:Value)(l:List Sy):Prop:=
 (∃a c,v= .slice a l.length c/\l.length<=c)/\∀j,j<l.length->∃b o c,v= .slice (some ⟨b,o,none⟩) l.length c/\A b/\b<w.heap.size/\w.cell? ⟨b,o+j*2,none⟩=some (.bool (l.getD j (false,0)).1)/\w.cell? ⟨b,o+j*2+1,none⟩=some (.int .i64 (l.getD j (false,0)).2)
section
variable{w w':World}{A A':Nat->Prop}{v:Value}{l:List Sy}
theorem rZ.kept(h:rZ w A v l)(hs:w.heap.size<=w'.heap.size)(hb:∀b,A b->b<w.heap.size->w'.heap[b]?=w.heap[b]?/\A' b):rZ w' A' v l:=
 ⟨h.1,λj hj=>let ⟨b,o,c,h1,h2,h3,h4,h5⟩:=h.2 j hj
   ⟨b,o,c,h1,(hb b h2 h3).2,by omega,(pI (w:=w) (hb b h2 h3).1).trans h4,(pI (w:=w) (hb b h2 h3).1).trans h5⟩⟩
theorem rZ.below(h:rZ w A v l)(hb:Below w.heap.size w w'):rZ w' A v l:=h.kept hb.size λb hA hlt=>⟨hb.block b hlt,hA⟩
theorem E8{base:Nat}(h:w.ownsRow base 121 2 v l.length (bD l)):rZ w (λb=>v.ownBlock=some b/\base<=b) v l:=by
 have hh:=h;obtain⟨_,⟨hv,h0⟩|⟨g,cap,cur,e,hb,_,hle,_⟩⟩:=hh
 ·exact⟨⟨none,0,by rw[hv,h0],by omega⟩,λj hj=>by omega⟩
 ·subst e
  refine⟨⟨_,_,rfl,hle⟩,λj hj=>⟨g,0,cap,rfl,⟨rfl,hb⟩,(h.lt g rfl).2,?_,?_⟩⟩
  ·rw[eO,h.cellAt (j*2) (by omega)]
   exact E5 (j:=0) hj (by omega)
  ·rw[eO,h.cellAt (j*2+1) (by omega)]
   exact E5 (j:=1) hj (by omega)
theorem dh.news(h:dh w v l)(hl:0<l.length):∃ad c,v= .slice (some ad) l.length c/\∀j u,(bD l)[j]?=some u->w.cell? (ad.add j)=some u:=by
 obtain⟨b,o,c,h1,_,_⟩:=h.2 0 hl;refine⟨⟨b,o,none⟩,c,h1,λj u hu=> ?_⟩;have hj:=(qw.1 hu).1;rw[YS]at hj;obtain⟨b',o',c',h2,h3,h4⟩:=h.2 (j/2) (by omega);rw[h1]at h2;cases h2;rw[Addr.add_lit];rcases Nat.mod_two_eq_zero_or_one j with h5|h5
 ·have e:j=j/2*2+0:=by omega
  rw[e,E5 (by omega) (by omega)]at hu;simp only[rY,List.getElem?_cons_zero,bM]at hu;rw[<-hu,<-h3,e]
  congr 3
  omega
 ·have e:j=j/2*2+1:=by omega
  rw[e,E5 (by omega) (by omega)]at hu;simp only[rY,List.getElem?_cons_succ,List.getElem?_cons_zero,bM]at hu;rw[<-hu,<-h4]
  congr 2
  omega
end
theorem QW{la:Option Addr}{f n sl lc:Nat}{fi:Int}(hf:fi=f)(hs:sl=f+n):∃A,(∀w:World,Sem.run Tryz.prog (Instr.sliceAt 94 (.slice la sl lc) (some (.int .i64 fi)) none none) w= .ok (.slice A n (lc-f)) w)/\(lc≠f->A=la.map (·.add (f*2))):=by
 subst hf;have h0:(0:Int)<=(f:Int):=aF _;have h1:(f:Int)<=(sl:Int):=by omega
 have h2:sl-f=n:=by omega
 refine⟨if lc=f then la else la.map (·.add (f*2)),λw=> ?_,λh=>by rw[aj h]⟩
 go_simp
 intro h;omega
def gT(w:World)(v:Value)(m:Nat)(ys:List Value):Prop:=
 (∃a c,v= .slice a m c/\m<=c)/\ys.length=m*2/\(∀u∈ys,u.oneCell'=true)/\(0<m->∃ad c,v= .slice (some ad) m c/\∀j u,ys[j]?=some u->w.cell? (ad.add j)=some u)
section
variable{w w':World}{v:Value}{m:Nat}{ys:List Value}
theorem gT.below(h:gT w v m ys){B:Nat}(hB:w.heap.size<=B)(hb:Below B w w'):gT w' v m ys:=by
 refine⟨h.1,h.2.1,h.2.2.1,λhm=> ?_⟩;obtain⟨ad,c,e,hc⟩:=h.2.2.2 hm;refine⟨ad,c,e,λj u hu=> ?_⟩;have h1:=hc j u hu;have h2:=aQ _ _ h1;exact(hb.cell (by omega)).trans h1
theorem dh.row{l:List Sy}(h:dh w v l):gT w v l.length (bD l):=⟨h.1,YS l,agD l,λhm=>h.news hm⟩
end
abbrev Part:=Value×Nat×List Value
def eG(PL:List Part):Nat:=(PL.map λp=>p.2.1).sum
def nD(PL:List Part):List Value:=PL.flatMap λp=>p.2.2
theorem Mv{PL:List Part}{k:Nat}(hk:k<PL.length):eG (PL.take (k+1))=eG (PL.take k)+PL[k].2.1:=by
 unfold eG;rw[fT hk,fD,Ab];simp
theorem YU{PL:List Part}{k:Nat}(hk:k<PL.length):nD (PL.take (k+1))=nD (PL.take k)++PL[k].2.2:=by
 unfold nD;rw[fT hk,qQ];simp
theorem Mw(PL:List Part)(k:Nat):eG (PL.take k)<=eG PL:=by
 have e:eG PL=eG (PL.take k)+eG (PL.drop k):=by
  unfold eG;rw[<-Ab,<-fD,wT]
 omega
end Go.Proofs.YthbifaoaiggooaaGreatDoor
