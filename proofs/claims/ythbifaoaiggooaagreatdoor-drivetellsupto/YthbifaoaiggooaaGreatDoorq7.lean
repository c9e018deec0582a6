import Derived.Test.YthbifaoaiggooaaGreatDoorq6
import Derived.Carry
set_option maxHeartbeats 6400000
set_option maxRecDepth 100000
namespace Go.Proofs.YthbifaoaiggooaaGreatDoor
open Go.RowKit
def KC:CM:=⟨.slice none 0 0,λ_=> .slice none 0 0,λ_=> .slice none 0 0⟩
def Ee(k T N:Nat)(rv tv:Value):Ad:=⟨k+1+1+1,k,k+1,k+1+1,T,N,rv,tv⟩
theorem acW(w:World)(T N:Nat)(rv tv:Value):
 aN ((((w.alloc (.map #[] 0)).alloc (.map #[] 0)).alloc (.map #[] 0)).alloc (.cells #[.int .i64 T,.int .i64 N,rv,tv,.map (some w.heap.size),.slice none 0 0,.map (some (w.heap.size+1)),.map (some (w.heap.size+1+1))] 177)) w.heap.size (Ee w.heap.size T N rv tv) KC cs0 0:=by
 have m1:=Gv w Tryz.prog 182 sV;have m2:=Gv (w.alloc (.map #[] 0)) Tryz.prog 180 jl;have m3:=Gv ((w.alloc (.map #[] 0)).alloc (.map #[] 0)) Tryz.prog 180 jl;simp only[lU]at m2 m3;have eI:(λ_=>none)=yY ([]:List aX):=by funext x;simp[yY]
 have eW:(λ_=>none)=jK cs0.W KC.VW:=by funext x;simp[jK,cs0]
 have eE:(λ_=>none)=jK cs0.E KC.VE:=by funext x;simp[jK,cs0]
 refine⟨⟨λi r hr=> ?_,λi j x y hij hx hy g h1 h2=> ?_⟩,(((m1.alloc _).alloc _).alloc _).congr eI,((m2.alloc _).alloc _).congr eW,(m3.alloc _).congr eE,λ_ _=>rfl,λ_ _=>rfl,by simp only[Ee];omega,by simp only[Ee];omega,by simp only[Ee];omega,by simp only[Ee];omega⟩
 ·cases i<;>simp only[Pc,bM]at hr<;>subst hr
  ·have:=sM (base:=w.heap.size) (e:=177) (size:=8) (((w.alloc (.map #[] 0)).alloc (.map #[] 0)).alloc (.map #[] 0)) #[.int .i64 T,.int .i64 N,rv,tv,.map (some w.heap.size),.slice none 0 0,.map (some (w.heap.size+1)),.map (some (w.heap.size+1+1))] 1 (by simp;omega) (by unfold maxLen;omega) rfl
   simp only[lU]at this;exact this
  ·exact ji _ _ _ _
  ·exact ji _ _ _ _
  ·exact ji _ _ _ _
 ·cases i<;>cases j<;>simp only[Pc,bM]at hx hy<;>subst hx<;>subst hy<;>first|exact hij rfl|(cases h2;done)|(cases h1;done)
structure KD(R:List Ru)(tok:List Int)(B:Nat)(d:Ad)(W:World)(st:bq)(v:CM)(nm:Nat)(wq:World):Prop where
 m:aN wq B d v st nm
 nc:nm<=st.c
 c:jZ R tok (λ_=>False) st
 b:vM st
 g:D5 R st (0,0)
 below:Below B W wq
theorem vM.small{st:bq}(h:vM st):st.I.length<=345960/\st.O.length<=345960/\st.c<=345960:=by
 have:=h.fit;have:=h.cnt;omega
theorem acX{w:World}{T N:Nat}{rv tv:Value}{R:List Ru}{tok:List Int}(hr:aG w w.heap.size rv R)(ht:aY w w.heap.size tv tok)(hm:aJ T N R=true)(htl:tok.length<=30):
 Calls Tryz.prog 58 #[.agg #[.int .i64 T,.int .i64 N,rv],tv] w λr w'=> ∃d v st nm,r= .returned (.pointer (some ⟨d.ca,0,none⟩))/\d.tv=tv/\aN w' (w.heap.size+1) d v st nm/\nm<=1000000/\(st.E (0,0)).length<=1000000/\(tok.length∈st.E (0,0)↔nQ R 0 tok)/\Below w.heap.size w w':=by
 obtain⟨hT,hN1,hN,hRl,rz⟩:=iD hm;obtain⟨ra,rc,aI⟩:=hr.1;obtain⟨ta,tc,gu⟩:=ht.1;obtain⟨rl,hrl⟩:=af R.length;obtain⟨tl,OD⟩:=af tok.length;have GL:Hid (tok.length=tl):=OD;rw[hrl]at aI;rw[OD]at gu;clear hrl OD;subst aI;subst gu;obtain⟨rv,aI⟩:=af (Value.slice ra rl rc);obtain⟨tv,gu⟩:=af (Value.slice ta tl tc);rw[aI]at hr;rw[gu]at ht;have hall:∀it,jI R tok it->it∈sU:=λit h=>h.all hRl (λq hq=>(rz q hq).2.2.1) htl;have hst:=acW (w.alloc (.cells #[.int .i64 T,.int .i64 N,rv] 27)) T N rv tv;simp only[lU]at hst;obtain⟨d,hd⟩:=af (Ee (w.heap.size+1) T N rv tv);have hca:d.ca=w.heap.size+1+1+1+1:=by rw[<-hd];rfl
 have hdr:d.rv=rv:=by rw[<-hd];rfl
 have hdt:d.tv=tv:=by rw[<-hd];rfl
 rw[hd]at hst;obtain⟨W5,jX⟩:=af ((((((w.alloc (.cells #[.int .i64 T,.int .i64 N,rv] 27)).alloc (.map #[] 0)).alloc (.map #[] 0)).alloc (.map #[] 0)).alloc (.cells #[.int .i64 T,.int .i64 N,rv,tv,.map (some (w.heap.size+1)),.slice none 0 0,.map (some (w.heap.size+1+1)),.map (some (w.heap.size+1+1+1))] 177)));rw[jX]at hst;have hb5:Below w.heap.size w W5:=by rw[<-jX];exact(((((ai _ _).alloc (ah _) _).alloc (by simp) _).alloc (by simp;omega) _).alloc (by simp;omega) _).alloc (by simp;omega) _
 have bg:=UU hst (R:=R) (n:=0) (p:=0) (by rw[hdr];exact(hr.below hb5).mono (by omega)) hRl (by omega) (by simp[cs0]) (by simp[cs0]);rw[show ((0:Nat):Int)=0 from rfl,hca]at bg
 have U3:Hid (∀wq,Below (w.heap.size+1) W5 wq->aG wq (w.heap.size+1) d.rv R/\aY wq (w.heap.size+1) d.tv tok/\Below w.heap.size w wq):=λwq hb=>by
  rw[hdr,hdt];have h5:Below w.heap.size w wq:=hb5.trans (hb.mono (by omega));exact⟨(hr.below h5).mono (by omega),(ht.below h5).mono (by omega),h5⟩
 have HS:Hid (aN W5 (w.heap.size+1) d KC cs0 0):=hst;have U4:Hid (∀it,jI R tok it->it∈sU):=hall;have GN:Hid (∀i,i<R.length->0<=(R.getD i (0,[])).1/\(R.getD i (0,[])).1<(N:Int)/\(R.getD i (0,[])).2.length<=8/\∀s∈(R.getD i (0,[])).2,0<=s.2/\s.2<if s.1 then (T:Int) else (N:Int)):=rz;have U5:Hid (d.tv=tv):=hdt;have Ci:Hid ((((((w.alloc (.cells #[.int .i64 T,.int .i64 N,rv] 27)).alloc (.map #[] 0)).alloc (.map #[] 0)).alloc (.map #[] 0)).alloc (.cells #[.int .i64 T,.int .i64 N,rv,tv,.map (some (w.heap.size+1)),.slice none 0 0,.map (some (w.heap.size+1+1)),.map (some (w.heap.size+1+1+1))] 177))=W5):=jX;clear hr ht hm hst hall hd hdr hdt hb5 jX rz;rw[<-aI,<-gu]at Ci;rw[<-gu]at U5;clear aI gu rv tv;have hmm:= @run_makeMap Tryz.prog
 go_enter Tryz.func58,Tryz.ntmps58
 go_upto_region 2 with fail
 clear hmm;have U6:Hid (w.heap.size+1+1+1+1=d.ca):=hca.symm;clear hca
 go_cut [5] from 6 (λs5 wx=>s5= .pointer (some ⟨d.ca,0,none⟩)/\∃v st nm,KD R tok (w.heap.size+1) d W5 st v nm wx)
 case first=>
  rw[Ci.out]
  go_wp2_with (go_at_call 95;refine bg.mono ?_;rintro r w1 ⟨rfl,aL,h3,h4⟩)
  go_meet
  case rel=>
   obtain⟨s1,s2,s3⟩:=Uz R tok;exact⟨by rw[U6.out],_,_,0,h3,aP _,s1,aco U4.out,s2,HS.out.rC h4⟩
 case rest=>
  obtain⟨rfl,v0,st0,U7,dX⟩:=hcut;have uN:Hid (KD R tok (w.heap.size+1) d W5 st0 v0 U7 wc):=dX;clear dX bg HS Ci U6
  go_wp2_with fail
  go_loopg [] (2*qB st0.I+st0.O.length) (λn wq=> ∃v st nm,n=2*qB st.I+st.O.length/\KD R tok (w.heap.size+1) d W5 st v nm wq)
  case atStart=>exact⟨v0,st0,U7,rfl,uN.out⟩
  case round=>
   clear uN;obtain⟨v,st,nm,oM,dX⟩:=hrel;have uN:Hid (KD R tok (w.heap.size+1) d W5 st v nm wr):=dX;have OE:Hid (gk=2*qB st.I+st.O.length):=oM;obtain⟨oa,oc,hov⟩:=dX.m.own.slice (i:= .op) rfl;have oJ:v.ov= .slice oa st.O.length oc:=hov;have c5:=(dX.m.cell (i:=5) rfl (by omega)).1;obtain⟨sI,sO,sc⟩:=dX.b.small;by_cases hO:0<st.O.length
   ·obtain⟨g,cap,hgv,_,GH⟩:=dX.m.own.form (i:= .op) rfl hO
    have GQ:v.ov= .slice (some ⟨g,0,none⟩) st.O.length cap:=hgv;obtain⟨k,hk⟩:∃k,st.O.length=k+1:=⟨st.O.length-1,by omega⟩;have ho:=dX.m.own.own .op _ rfl;simp only at ho;obtain⟨it,hit⟩:=af (fE st);have hit':st.O.getD k ⟨0,0,0,0⟩=it:=by rw[<-hit];unfold fE;rw[hk];rfl
    obtain⟨q0,q1,q2,q3⟩:=UM ho GQ (i:=k) (by omega) hit'
    have hcap:k+1<=cap:=by
     rw[GQ]at ho;rcases ho.2 with⟨e,_⟩|⟨g',cap',cur,e,_,_,h4,_⟩
     ·cases e
     ·injection e with _ _ e3
      omega
    obtain⟨pin,pc⟩:=dX.c.pop hO;rw[hit]at pin pc;have hok:=dX.c.ok it pin;have hlk:=pc.look pin;have hless:=acn dX.b dX.c hO U4.out;rw[hit]at hless;obtain⟨sW,hT1,_⟩:=U3.out wr dX.below;obtain⟨KE,pg⟩:=dX.m.pop GQ hO;rw[hk]at KE pg;rw[show k+1-1=k from rfl]at KE pg;have pm:=KE.alloc (.cells #[.int .i64 it.rule,.int .i64 it.read,.int .i64 it.fr,.int .i64 it.upto] 182);have hca:d.ca<wr.heap.size:=(dX.m.kc (.inr (.inr (.inr (.inl rfl))))).2;have pb:=dX.m.rC (pg.alloc (.cells #[.int .i64 it.rule,.int .i64 it.read,.int .i64 it.fr,.int .i64 it.upto] 182));have wl:∀s,((lG st).W s).length<=345960:=λs=>by have:=dX.b.wl s;show (st.W s).length<=_;omega
    have el:∀s,((lG st).E s).length<=345960:=λs=>by have:=dX.b.el s;show (st.E s).length<=_;omega
    have hfr:it.fr<=30/\it.upto<=30:=by have:=hok.le;have:=hok.len;omega
    have hrd:=hok.read;have h8:=(GN.out _ hok.rule).2.2.1;have yO:=hok.rule
    have lk:=acU (R:=R) (tok:=tok) pm (sW.below pb) (hT1.below pb) (a:=it.rule) (b:=it.read) (c:=it.fr) (e:=it.upto)
     ⟨hok.rule,hok.read,hfr.1,hfr.2,hRl,h8,(GN.out _ hok.rule).1,by have:=(GN.out _ hok.rule).2.1;show (R.getD it.rule (0,[])).1<=1000;omega,λs hs=>by have:=(GN.out _ hok.rule).2.2.2 s hs;split at this<;>omega,htl⟩ (by have:=dX.nc;omega) sI (by show st.O.dropLast.length<=_;simp;omega) wl el
     (λs x hx=>by
       obtain⟨a1,a2,_⟩:=pc.xJ s x hx;have o1:=dX.c.ok x a1;have:=o1.rule;have:=(GN.out _ o1.rule).2.2.1;have:=o1.le;have:=o1.len;unfold eF at a2
       exact⟨by simp only[bS];omega,by simp only[bS];omega,by simp only[bS];omega,by simp only[bS];omega⟩)
     (λs j hj=>by
       obtain⟨_,a2,_⟩:=pc.vL s j hj;unfold eF at hrd
       exact⟨by simp only[bS];omega,by simp only[bS];omega,by simp only[bS];omega,by simp only[bS];omega⟩)
    have OG:Hid (jZ R tok (λ_=>False) (jY R tok it (lG st))):=hlk;have KF:Hid (Less st (jY R tok it (lG st))):=hless;have U8:Hid (Below (w.heap.size+1) wr ((wr.setCell ⟨d.ca,5,none⟩ (.slice (some ⟨g,0,none⟩) k cap)).alloc (.cells #[.int .i64 it.rule,.int .i64 it.read,.int .i64 it.fr,.int .i64 it.upto] 182))):=pb;have U9:Hid (aN ((wr.setCell ⟨d.ca,5,none⟩ (.slice (some ⟨g,0,none⟩) k cap)).alloc (.cells #[.int .i64 it.rule,.int .i64 it.read,.int .i64 it.fr,.int .i64 it.upto] 182)) (w.heap.size+1) d { v with ov:= .slice (some ⟨g,0,none⟩) k cap } (lG st) nm):=pm;have f5:=(dX.m.cell (i:=5) rfl (by omega)).2;rw[GQ,hk]at c5;have i0:(0:Int)<=(k:Int):=aF _;have i1:(k:Int)<(k:Int)+1:=by omega
    have i2:(k:Int)<=(cap:Int):=by omega
    have hkb:k<=345960:=by omega
    obtain⟨Va,Vb,rc',re'⟩:=it;simp only at q0 q1 q2 q3 lk U8 U9;clear dX oM hov oJ hgv GQ ho hit hit' pin pc hok hlk hless sW hT1 pm KE pg pb wl el hfr hrd h8 yO hO hcap GH
    go_wp2_with (go_at_call 96;refine lk.mono ?_;rintro r w1 ⟨rfl,v',h3,h4⟩)
    go_roundg (2*qB (jY R tok ⟨Va,Vb,rc',re'⟩ (lG st)).I+(jY R tok ⟨Va,Vb,rc',re'⟩ (lG st)).O.length)
    case measure=>rw[OE.out];exact KF.out.less
    case rel=>
     exact⟨v',_,nm+1,rfl,h3,by rw[KF.out.c];have:=uN.out.nc;omega,OG.out,KF.out.bnd,λq hq he=>KF.out.mono _ (uN.out.g q hq he),(uN.out.below.trans U8.out).trans (U9.out.rC h4)⟩
   ·have OH:st.O.length=0:=by omega
    rw[oJ,OH]at c5;have HO:Hid (st.O=[]):=List.length_eq_zero_iff.1 OH;clear dX oM hov oJ hO OH
    go_wp2_with fail
    go_ret;refine⟨d,v,st,nm,rfl,U5.out,uN.out.m,by have:=uN.out.nc;omega,by have:=uN.out.b.el (0,0);omega,?_,(U3.out wr uN.out.below).2.2⟩;exact uN.out.c.tells HO.out uN.out.g
end Go.Proofs.YthbifaoaiggooaaGreatDoor
namespace Go.Proofs.YthbifaoaiggooaaGreatDoor
def eT(T:Int)(tok:List Int):Bool:=tok.all λt=>decide (0<=t)&&decide (t<T)
def eZ(T N:Int)(R:List Ru)(tok:List Int):Int:=if aJ T N R=false then 2 else if 30<tok.length then 1 else if eT T tok=false then 3 else 0
theorem OI{T N:Nat}{R:List Ru}(h:aJ T N R=true):dD T N R:=by
 obtain⟨_,h1,_,_,h5⟩:=iD h
 have mem:∀r∈R,0<=r.1/\r.1<(N:Int)/\∀s∈r.2,0<=s.2/\s.2<if s.1 then (T:Int) else (N:Int):=λr hr=>by
  obtain⟨q,hq,rfl⟩:=kE hr;have e:R.getD q (0,[])=R[q]:=by simp[List.getD,hq]
  rw[<-e];exact⟨(h5 q hq).1,(h5 q hq).2.1,(h5 q hq).2.2.2⟩
 refine⟨λr hr=>⟨(mem r hr).1,(mem r hr).2.1⟩,λr hr s hs hb=> ?_,λr hr s hs hb=> ?_,h1⟩
 ·have:=(mem r hr).2.2 s hs;rw[hb]at this;simpa using this
 ·have:=(mem r hr).2.2 s hs;rw[hb]at this;simpa using this
end Go.Proofs.YthbifaoaiggooaaGreatDoor
namespace Go.Proofs.YthbifaoaiggooaaGreatDoor
open Go.RowKit
theorem Vd{w:World}{T N:Int}{rv tv:Value}{tok:List Int}(hr:∃ra rl rc,rv= .slice ra rl rc)(ht:aY w w.heap.size tv tok)(gJ:tok.length<=30):
 Calls Tryz.prog 57 #[.agg #[.int .i64 T,.int .i64 N,rv],tv] w λe w'=>e= .returned (.bool (eT T tok))/\Below w.heap.size w w':=by
 obtain⟨ra,rl,rc,rfl⟩:=hr;obtain⟨ta,tc,gu⟩:=ht.1;subst gu;have HT1:Hid (aY (w.alloc (.cells #[.int .i64 T,.int .i64 N,.slice ra rl rc] 27)) w.heap.size (.slice ta tok.length tc) tok):=ht.below ((ai _ _).alloc (ah _) _);have HB:Hid (Below w.heap.size w (w.alloc (.cells #[.int .i64 T,.int .i64 N,.slice ra rl rc] 27))):=(ai _ _).alloc (ah _) _;clear ht
 go_enter Tryz.func57,Tryz.ntmps57
 go_wp2_with fail
 go_loopw [9] (λs wr=> ∃i:Nat,s= .int .i64 i/\i<=tok.length/\eT T (tok.take i)=true/\wr=w.alloc (.cells #[.int .i64 T,.int .i64 N,.slice ra rl rc] 27)) (λs _=>tok.length-(intOf s).toNat)
 case atStart=>exact⟨0,rfl,aP _,rfl,rfl⟩
 case round=>
  obtain⟨i,rfl,hi,hIn,rfl⟩:=hrel;have AB:Hid (eT T (tok.take i)=true):=hIn;clear hIn;by_cases hlt:i<tok.length
  ·obtain⟨tg,tO,U2,hte,_,d1⟩:=HT1.out.2 i hlt
   injection hte with h5 _ h6;subst h5;subst h6;obtain⟨x,hx⟩:=af (tok.getD i 0);have hxe:tok[i]=x:=by rw[<-hx];simp[List.getD,hlt]
   have Ve:Hid (¬(0<=x/\x<T)->eT T tok=false):=λh=>by
    unfold eT;rw[FH];exact⟨tok[i],jO hlt,by rw[hxe];simpa using λh1=>by have:=λh2=>h ⟨h1,h2⟩;omega⟩
   have acY:Hid (0<=x/\x<T->eT T (tok.take (i+1))=true):=λh=>by
    have:=AB.out;unfold eT at this⊢;rw[fT hlt,zZ,this,hxe];simp[h.1,h.2]
   rw[hx]at d1;have i0:(0:Int)<=(i:Int):=aF _;have i1:(i:Int)<(tok.length:Int):=by omega
   clear hx hxe;by_cases hx0:x<0
   ·have HE:Hid (eT T tok=false):=Ve.out (by omega)
    go_wp2_with fail
    go_ret;exact⟨by rw[HE.out];rfl,HB.out⟩
   ·have hx1:decide (x<0)=false:=aU hx0
    by_cases hxT:T<=x
    ·have HE:Hid (eT T tok=false):=Ve.out (by omega)
     go_wp2_with fail
     go_ret;exact⟨by rw[HE.out];rfl,HB.out⟩
    ·have hx2:decide (T<=x)=false:=aU hxT
     have HG:Hid (eT T (tok.take (i+1))=true):=acY.out ⟨by omega,by omega⟩
     go_wp2_with fail
     go_roundw
     case rel=>exact⟨i+1,by go_num,by omega,HG.out,trivial⟩
     case measure=>simp[intOf];omega
  ·have HE:Hid (eT T tok=true):=by
    show eT T tok=true;have:=AB.out;rw[pG (by omega)]at this;exact this
   go_wp2_with fail
   go_ret;exact⟨by rw[HE.out];rfl,HB.out⟩
theorem acZ{w:World}{B nm:Nat}{d:Ad}{v:CM}{st:bq}(h:aN w B d v st nm)(hn:nm<=1000000)(hE:(st.E (0,0)).length<=1000000){ta:Option Addr}{tl tc:Nat}(ht:d.tv= .slice ta tl tc):
 Calls Tryz.prog 59 #[.pointer (some ⟨d.ca,0,none⟩)] w λr w'=>r= .returned (.bool (decide (tl∈st.E (0,0))))/\Below w.heap.size w w':=by
 have c7:=(h.cell (i:=7) rfl (by omega)).1;have c3:=(h.cell (i:=3) rfl (by omega)).1;rw[ht]at c3;have l1:=Kv h.drew (s:=(0,0)) (by decide) (by decide) (by decide) hn;unfold jl at l1;simp only at l1;rw[show ((0:Nat):Int)=0 from rfl]at l1;have ct:=Ow (Ox h.drew (0,0)) (by simpa using hE) tl
 have hmem:decide ((tl:Int)∈(st.E (0,0)).map λj:Nat=>(j:Int))=decide (tl∈st.E (0,0)):=by
  apply Dz.2;rw[jP];constructor
  ·rintro ⟨x,hx,e⟩
   have:x=tl:=by omega
   rw[<-this];exact hx
  ·intro hx;exact⟨tl,hx,rfl⟩
 rw[hmem]at ct;obtain⟨z,hz⟩:=af (decide (tl∈st.E (0,0)));rw[hz]at ct⊢;obtain⟨ev,hev⟩:=af (v.VE (0,0));rw[hev]at l1 ct;clear h hmem hz hev ht
 go_enter Tryz.func59,Tryz.ntmps59
 go_wp2_with fail
 refine xq 11 (by kernel_rfl) (by kernel_rfl) ?_;simp only[List.take_succ_cons,List.take_zero,qP,om]
 repeat still_step
 refine xg ?_
 go_wp2_with (go_at_call 97;refine ct.mono ?_;rintro r w1 ⟨rfl,rfl⟩)
 go_ret;exact⟨rfl,(ai _ _).drew⟩
theorem Vf{w:World}{T N:Int}{rv tv:Value}{R:List Ru}{tok:List Int}(hr:aG w w.heap.size rv R)(ht:aY w w.heap.size tv tok)(hw:eZ T N R tok≠0):
 Calls Tryz.prog 25 #[.agg #[.int .i64 T,.int .i64 N,rv],tv] w λe w'=>e= .returned (.tuple #[.bool false,.int .i64 (eZ T N R tok)])/\Below w.heap.size w w':=by
 obtain⟨ra,rc,aI⟩:=hr.1;obtain⟨ta,tc,gu⟩:=ht.1;subst aI;subst gu;have may:=oD (T:=T) (N:=N) (hr.boxed (.cells #[.int .i64 T,.int .i64 N,.slice ra R.length rc] 27));simp only[lU]at may;have HB0:Hid (Below w.heap.size w (w.alloc (.cells #[.int .i64 T,.int .i64 N,.slice ra R.length rc] 27))):=(ai _ _).alloc (ah _) _;have HT:Hid (aY w w.heap.size (.slice ta tok.length tc) tok):=ht;clear hr ht;cases hm:aJ T N R with
 |false=>
  rw[hm]at may;have HE:Hid (eZ T N R tok=2):=by show eZ T N R tok=2;simp[eZ,hm]
  rw[HE.out];clear hm hw HE
  go_enter Tryz.func25,Tryz.ntmps25
  go_wp2_with
   (go_at_call 18;refine may.mono ?_;rintro e w1 ⟨rfl,hB1⟩
    have HB1:Hid (Below w.heap.size w w1):=HB0.out.trans (hB1.mono (by simp))
    clear hB1)
  refine aH (v:= .tuple #[.bool false,.int .i64 2]) (by simp[results,Tryz.results25,go_sem]) rfl ⟨rfl,HB1.out⟩
 |true=>
  rw[hm]at may;by_cases gJ:30<tok.length
  ·have HE:Hid (eZ T N R tok=1):=by show eZ T N R tok=1;simp[eZ,hm,gJ]
   rw[HE.out];have j0:(30:Int)<(tok.length:Int):=by omega
   clear hm hw HE
   go_enter Tryz.func25,Tryz.ntmps25
   go_wp2_with
    (go_at_call 18;refine may.mono ?_;rintro e w1 ⟨rfl,hB1⟩
     have HB1:Hid (Below w.heap.size w w1):=HB0.out.trans (hB1.mono (by simp))
     clear hB1)
   refine aH (v:= .tuple #[.bool false,.int .i64 1]) (by simp[results,Tryz.results25,go_sem]) rfl ⟨rfl,HB1.out⟩
  ·have hin:eT T tok=false:=by
    cases hin:eT T tok with
    |false=>rfl
    |true=>exact absurd (by simp[eZ,hm,gJ,hin]) hw
   have HE:Hid (eZ T N R tok=3):=by show eZ T N R tok=3;simp[eZ,hm,gJ,hin]
   rw[HE.out];have j0:decide ((30:Int)<(tok.length:Int))=false:=aU (by omega);have AJ:Hid (eT T tok=false):=hin;clear hm hw HE hin
   go_enter Tryz.func25,Tryz.ntmps25
   go_wp2_with
    (first
     |(go_at_call 18;refine may.mono ?_;rintro e w1 ⟨rfl,hB1⟩
       have HB1:Hid (Below w.heap.size w w1):=HB0.out.trans (hB1.mono (by simp));have b0:w1.cell? ⟨w.heap.size,0,none⟩=some (.int .i64 T):=(hB1.cell (by simp)).trans (by simp[go_sem]);have b1:w1.cell? ⟨w.heap.size,1,none⟩=some (.int .i64 N):=(hB1.cell (by simp)).trans (by simp[go_sem]);have b2:w1.cell? ⟨w.heap.size,2,none⟩=some (.slice ra R.length rc):=(hB1.cell (by simp)).trans (by simp[go_sem]);have nL:=Vd (w:=w1) (T:=T) (N:=N) (rv:= .slice ra R.length rc) ⟨_,_,_,rfl⟩ ((HT.out.below HB1.out).mono HB1.out.size) (by omega);rw[AJ.out]at nL
       clear hB1 may)
     |(go_at_call 57;refine nL.mono ?_;rintro e w2 ⟨rfl,hB2⟩
       have HB2:Hid (Below w.heap.size w w2):=HB1.out.trans (hB2.mono HB1.out.size)
       clear hB2))
   refine aH (v:= .tuple #[.bool false,.int .i64 3]) (by simp[results,Tryz.results25,go_sem]) rfl ⟨rfl,HB2.out⟩
theorem Vg{w:World}{T N:Nat}{rv tv:Value}{R:List Ru}{tok:List Int}(hr:aG w w.heap.size rv R)(ht:aY w w.heap.size tv tok)(hm:aJ T N R=true)(gJ:tok.length<=30)(hin:eT T tok=true):
 Calls Tryz.prog 25 #[.agg #[.int .i64 T,.int .i64 N,rv],tv] w λe w'=> ∃z,e= .returned (.tuple #[.bool z,.int .i64 0])/\(z=true↔nQ R 0 tok)/\Below w.heap.size w w':=by
 obtain⟨ra,rc,aI⟩:=hr.1;obtain⟨ta,tc,gu⟩:=ht.1;subst aI;subst gu;have may:=oD (T:=T) (N:=N) (hr.boxed (.cells #[.int .i64 T,.int .i64 N,.slice ra R.length rc] 27));simp only[lU]at may;rw[hm]at may;have HB0:Hid (Below w.heap.size w (w.alloc (.cells #[.int .i64 T,.int .i64 N,.slice ra R.length rc] 27))):=(ai _ _).alloc (ah _) _;have HT:Hid (aY w w.heap.size (.slice ta tok.length tc) tok):=ht;have HR:Hid (aG w w.heap.size (.slice ra R.length rc) R):=hr;have j0:decide ((30:Int)<(tok.length:Int))=false:=aU (by omega);have AJ:Hid (eT T tok=true):=hin;have HM:Hid (aJ T N R=true):=hm;obtain⟨tl,htl⟩:=af tok.length;have GL:Hid (tok.length=tl):=htl;clear hm hin hr ht;rw[htl]at j0 gJ⊢;clear htl
 go_enter Tryz.func25,Tryz.ntmps25
 go_wp2_with
  (first
   |(go_at_call 18;refine may.mono ?_;rintro e w1 ⟨rfl,hB1⟩
     have HB1:Hid (Below w.heap.size w w1):=HB0.out.trans (hB1.mono (by simp));have b0:w1.cell? ⟨w.heap.size,0,none⟩=some (.int .i64 T):=(hB1.cell (by simp)).trans (by simp[go_sem]);have b1:w1.cell? ⟨w.heap.size,1,none⟩=some (.int .i64 N):=(hB1.cell (by simp)).trans (by simp[go_sem]);have b2:w1.cell? ⟨w.heap.size,2,none⟩=some (.slice ra R.length rc):=(hB1.cell (by simp)).trans (by simp[go_sem]);have hs1:w.heap.size+1<=w1.heap.size:=by have:=hB1.size;simpa using this
     have nL:=Vd (w:=w1) (T:=T) (N:=N) (rv:= .slice ra R.length rc) ⟨_,_,_,rfl⟩ ((HT.out.below HB1.out).mono HB1.out.size) (by rw[GL.out];exact gJ);rw[AJ.out,GL.out]at nL
     clear hB1 may)
   |(go_at_call 57;refine nL.mono ?_;rintro e w2 ⟨rfl,hB2⟩
     have HB2:Hid (Below w.heap.size w w2):=HB1.out.trans (hB2.mono HB1.out.size);have d0:=(hB2.cell (p:=⟨w.heap.size,0,none⟩) (by simp only;omega)).trans b0;have d1:=(hB2.cell (p:=⟨w.heap.size,1,none⟩) (by simp only;omega)).trans b1;have d2:=(hB2.cell (p:=⟨w.heap.size,2,none⟩) (by simp only;omega)).trans b2;have co:=acX (w:=w2) (T:=T) (N:=N) ((HR.out.below HB2.out).mono HB2.out.size) ((HT.out.below HB2.out).mono HB2.out.size) HM.out (by rw[GL.out];exact gJ);rw[GL.out]at co
     clear hB2 nL)
   |(go_at_call 58;refine co.mono ?_;rintro e w3 ⟨d,v,st,nm,rfl,hdt,hC,hnm,hE,hD,hB3⟩
     have HB3:Hid (Below w.heap.size w w3):=HB2.out.trans (hB3.mono HB2.out.size);have ha:=acZ hC hnm hE hdt;obtain⟨z,hz⟩:=af (decide (tl∈st.E (0,0)))
     have HZ:Hid (z=true↔nQ R 0 tok):=by
      show z=true↔nQ R 0 tok;rw[<-hz,decide_eq_true_iff];exact hD
     rw[hz]at ha
     clear hB3 hC hdt hD hz co)
   |(go_at_call 59;refine ha.mono ?_;rintro e w4 ⟨rfl,hB4⟩
     have jm:Hid (Below w.heap.size w w4):=HB3.out.trans (hB4.mono HB3.out.size)
     clear hB4))
 refine aH (v:= .tuple #[.bool z,.int .i64 0]) (by simp[results,Tryz.results25,go_sem]) rfl ⟨z,rfl,HZ.out,jm.out⟩
def kg(w:World)(v:Value)(X:List Bool):Prop:=
 (∃a c,v= .slice a X.length c)/\∀i,i<X.length->∃g o c,v= .slice (some ⟨g,o,none⟩) X.length c/\w.cell? ⟨g,o+i,none⟩=some (.bool (X.getD i false))
def oN(w:World)(v:Value)(X:List (List Bool)):Prop:=
 (∃a c,v= .slice a X.length c)/\∀i,i<X.length->∃g o c rv,v= .slice (some ⟨g,o,none⟩) X.length c/\w.cell? ⟨g,o+i,none⟩=some rv/\kg w rv (X.getD i [])
def dh(w:World)(v:Value)(l:List Sy):Prop:=
 (∃a c,v= .slice a l.length c/\l.length<=c)/\∀j,j<l.length->∃b o c,v= .slice (some ⟨b,o,none⟩) l.length c/\w.cell? ⟨b,o+j*2,none⟩=some (.bool (l.getD j (false,0)).1)/\
  w.cell? ⟨b,o+j*2+1,none⟩=some (.int .i64 (l.getD j (false,0)).2)
theorem kg.same{w w':World}{v:Value}{X:List Bool}(h:kg w v X)(hw:∀b o,b<w.heap.size->w'.cell? ⟨b,o,none⟩=w.cell? ⟨b,o,none⟩):kg w' v X:=
 ⟨h.1,λi hi=>let ⟨g,o,c,h1,h2⟩:=h.2 i hi;⟨g,o,c,h1,(hw g _ (aQ w _ h2)).trans h2⟩⟩
theorem oN.same{w w':World}{v:Value}{X:List (List Bool)}(h:oN w v X)(hw:∀b o,b<w.heap.size->w'.cell? ⟨b,o,none⟩=w.cell? ⟨b,o,none⟩):oN w' v X:=
 ⟨h.1,λi hi=>let ⟨g,o,c,rv,h1,h2,h3⟩:=h.2 i hi;⟨g,o,c,rv,h1,(hw g _ (aQ w _ h2)).trans h2,h3.same hw⟩⟩
theorem dh.same{w w':World}{v:Value}{l:List Sy}(h:dh w v l)(hw:∀b o,b<w.heap.size->w'.cell? ⟨b,o,none⟩=w.cell? ⟨b,o,none⟩):dh w' v l:=
 ⟨h.1,λj hj=>let ⟨b,o,c,h1,h2,h3⟩:=h.2 j hj;⟨b,o,c,h1,(hw b _ (aQ w _ h2)).trans h2,(hw b _ (aQ w _ h3)).trans h3⟩⟩
theorem aG.mR{w:World}{B:Nat}{rv:Value}{R:List Ru}(h:aG w B rv R){q:Nat}(hq:q<R.length):∃b o rc qa qc,rv= .slice (some ⟨b,o,none⟩) R.length rc/\b<B/\
 w.cell? ⟨b,o+q*2,none⟩=some (.int .i64 (R.getD q (0,[])).1)/\w.cell? ⟨b,o+q*2+1,none⟩=some (.slice qa (R.getD q (0,[])).2.length qc)/\dh w (.slice qa (R.getD q (0,[])).2.length qc) (R.getD q (0,[])).2:=by
 obtain⟨b,o,rc,qa,qc,h1,h2,h3,h4,h6,h5⟩:=h.2 q hq;refine⟨b,o,rc,qa,qc,h1,h2,h3,by rw[kF];exact h4,⟨_,_,rfl,h6⟩,λj hj=> ?_⟩;obtain⟨b',o',rfl,_,k1,k2⟩:=h5 j hj;exact⟨b',o',qc,rfl,k1,by rw[kF];exact k2⟩
theorem ko{w w':World}(h:Below w.heap.size w w'):∀b o,b<w.heap.size->w'.cell? ⟨b,o,none⟩=w.cell? ⟨b,o,none⟩:=λ_ _ hb=>h.cell hb
def AL(X:List Bool)(l:List Sy):Bool:=l.all λs=> !s.1&&X.getD s.2.toNat false
def OJ(F:List (List Bool))(t:Nat)(s:Sy):Bool:=if s.1 then decide (s.2=(t:Int)) else (F.getD s.2.toNat []).getD t false
def AO(X:List Bool)(F:List (List Bool))(t:Nat)(l:List Sy):Bool:=(List.range l.length).any λi=>AL X (l.take i)&&OJ F t (l.getD i (false,0))
abbrev It:=Nat×Nat
def aR(R:List Ru)(r:Nat):List Sy:=if r=R.length then [(false,0)] else (R.getD r (0,[])).2
def kr(w:World)(lim:Nat)(v:Value)(L:List It):Prop:=
 (∃a c,v= .slice a L.length c)/\∀k,k<L.length->∃b o c,v= .slice (some ⟨b,o,none⟩) L.length c/\b<lim/\
  w.cell? ⟨b,o+k*2,none⟩=some (.int .i64 (L.getD k (0,0)).1)/\w.cell? ⟨b,o+(k*2+1),none⟩=some (.int .i64 (L.getD k (0,0)).2)
theorem kr.below{B:Nat}{w w':World}{v:Value}{L:List It}(h:kr w B v L)(hb:Below B w w'):kr w' B v L:=
 ⟨h.1,λk hk=>let ⟨b,o,c,h1,h2,h3,h4⟩:=h.2 k hk;⟨b,o,c,h1,h2,(hb.cell h2).trans h3,(hb.cell h2).trans h4⟩⟩
theorem kr.mono{B B':Nat}{w:World}{v:Value}{L:List It}(h:kr w B v L)(hB:B<=B'):kr w B' v L:=
 ⟨h.1,λk hk=>let ⟨b,o,c,h1,h2,h3,h4⟩:=h.2 k hk;⟨b,o,c,h1,by omega,h3,h4⟩⟩
structure jT(w:World)(lim ab:Nat)(T N:Nat)(rv:Value)(R:List Ru):Prop where
 t:w.cell? ⟨ab,0,none⟩=some (.int .i64 T)
 n:w.cell? ⟨ab,1,none⟩=some (.int .i64 N)
 r:w.cell? ⟨ab,2,none⟩=some rv
 rules:aG w lim rv R
 le:lim<=w.heap.size
 lt:ab<w.heap.size
theorem jT.below{w w':World}{lim ab T N B:Nat}{rv:Value}{R:List Ru}(h:jT w lim ab T N rv R)(hb:Below B w w')(hl:lim<=B)(ha:ab<B):jT w' lim ab T N rv R:=
 ⟨(hb.cell ha).trans h.t,(hb.cell ha).trans h.n,(hb.cell ha).trans h.r,h.rules.below (hb.mono hl),aZ h.le hb.size,jg h.lt hb.size⟩
def gy(T:Nat)(s:Sy):Int:=if s.1 then s.2 else (T:Int)+s.2
end Go.Proofs.YthbifaoaiggooaaGreatDoor
namespace Go.Proofs.YthbifaoaiggooaaGreatDoor
inductive Cl(R:List Ru)(S:It->Prop):It->Prop
 |base {i:It} (h:S i):Cl R S i
 |step {r d n:Nat} {m:Int} (h:Cl R S (r,d)) (h1:(aR R r)[d]?=some (false,m)) (h2:n<R.length) (h3:(R.getD n (0,[])).1=m):Cl R S (n,0)
section
variable{α:Type}[DecidableEq α]
theorem Vh{A B:List α}(hA:A.Nodup)(h:∀x∈A,x∈B):A.length<=B.length:=by
 induction A generalizing B with
 |nil=>simp
 |cons a A ih=>
  rw[FN]at hA;have ha:=h a (by simp);have:=ih hA.2 (B:=B.erase a) λx hx=>(List.mem_erase_of_ne (λe=>hA.1 (by rw[<-e];exact hx))).2 (h x (by simp[hx]));rw[List.length_erase_of_mem ha]at this;have:=List.length_pos_of_mem ha;simp only[List.length_cons];omega
end
section
variable{R:List Ru}{l O:List It}{k n:Nat}
end
end Go.Proofs.YthbifaoaiggooaaGreatDoor
namespace Go.Proofs.YthbifaoaiggooaaGreatDoor
open Classical
abbrev aV:=It->Prop
def kJ(T:Nat)(R:List Ru)(i:It)(x:Nat):Prop:=∃s,(aR R i.1)[i.2]?=some s/\gy T s=(x:Int)
def Ef(T:Nat)(R:List Ru)(S:aV)(x:Nat):aV:=λj=> ∃i,S i/\kJ T R i x/\j=(i.1,i.2+1)
def rE(T:Nat)(R:List Ru)(S:aV)(x:Nat):aV:=Cl R (Ef T R S x)
def cu:aV:=λ_=>False
noncomputable def visit(T:Nat)(R:List Ru)(L:List aV)(k x:Nat):Int×List aV:=
 if ∃i,L.getD k cu i/\kJ T R i x then
  if h:∃n,n<L.length/\L.getD n cu=rE T R (L.getD k cu) x then (((Classical.choose h:Nat):Int),L) else ((L.length:Int),L++[rE T R (L.getD k cu) x])
 else (-1,L)
noncomputable def lH(T:Nat)(R:List Ru)(k x:Nat)(p:List Int×List aV):List Int×List aV:=(p.1++[(visit T R p.2 k x).1],(visit T R p.2 k x).2)
noncomputable def di(T:Nat)(R:List Ru)(k x:Nat)(L:List aV):List Int×List aV:=bf x (lH T R k) ([],L)
noncomputable def mh(T N:Nat)(R:List Ru)(k:Nat)(p:List (List Int)×List aV):List (List Int)×List aV:=(p.1++[(di T R k (T+N) p.2).1],(di T R k (T+N) p.2).2)
noncomputable def ax(T N:Nat)(R:List Ru)(k:Nat):List (List Int)×List aV:=bf k (mh T N R) ([],[Cl R λi=>i=(R.length,0)])
def Vi(L:List aV):Prop:=∀i j,i<L.length->j<L.length->L.getD i cu=L.getD j cu->i=j
section
variable{T N:Nat}{R:List Ru}{L:List aV}{k x:Nat}
theorem OM(h:¬ ∃i,L.getD k cu i/\kJ T R i x):visit T R L k x=(-1,L):=by unfold visit;rw[aj h]
theorem ac0(hd:Vi L)(h:∃i,L.getD k cu i/\kJ T R i x){n:Nat}(hn:n<L.length)(he:L.getD n cu=rE T R (L.getD k cu) x):visit T R L k x=((n:Int),L):=by
 unfold visit;have h2:∃n,n<L.length/\L.getD n cu=rE T R (L.getD k cu) x:=⟨n,hn,he⟩;rw[au h,dif_pos h2];have:=Classical.choose_spec h2;have e:=hd _ _ this.1 hn (this.2.trans he.symm);rw[e]
theorem ac1(h:∃i,L.getD k cu i/\kJ T R i x)(hno:∀n,n<L.length->L.getD n cu≠rE T R (L.getD k cu) x):visit T R L k x=((L.length:Int),L++[rE T R (L.getD k cu) x]):=by
 unfold visit;rw[au h,dif_neg (λ⟨n,hn,he⟩=>hno n hn he)]
theorem ac3:L.length<=(visit T R L k x).2.length:=by
 unfold visit;split
 ·split
  ·exact ah _
  ·simp
 ·exact ah _
end
structure xM(O:List It)(S:aV):Prop where
 uO:O.Nodup
 mem:∀i,i∈O↔S i
theorem xM.eq{O:List It}{S S':aV}(h:xM O S)(h':xM O S'):S=S':=funext λi=>propext ((h.mem i).symm.trans (h'.mem i))
noncomputable def dV(T:Nat)(R:List Ru)(O:List It)(x j:Nat):List It:=((O.take j).filter λi=>decide (kJ T R i x)).map λi=>(i.1,i.2+1)
theorem ac4{T:Nat}{R:List Ru}{O:List It}{x j:Nat}(h:O.Nodup):(dV T R O x j).Nodup:=by
 unfold dV;have h1:((O.take j).filter λi=>decide (kJ T R i x)).Nodup:=(h.sublist (List.take_sublist _ _)).sublist List.filter_sublist;generalize ((O.take j).filter λi=>decide (kJ T R i x))=A at h1
 induction A with
 |nil=>simp
 |cons a A ih=>
  rw[FN]at h1;rw[jB,FN];refine⟨λhm=> ?_,ih h1.2⟩;obtain⟨b,hb,e⟩:=jP.1 hm;simp only[qx,Nat.add_right_cancel_iff]at e;exact h1.1 (by rw[show a=b from Prod.ext e.1.symm e.2.symm];exact hb)
theorem OP{T:Nat}{R:List Ru}{O:List It}{x:Nat}{S:aV}(h:xM O S):∀i,i∈dV T R O x O.length↔Ef T R S x i:=λi=>by
 unfold dV Ef;rw[gH];constructor
 ·intro hi
  obtain⟨b,hb,rfl⟩:=jP.1 hi;rw[sD]at hb;exact⟨b,(h.mem b).1 hb.1,by simpa using hb.2,rfl⟩
 ·rintro ⟨b,h1,h2,rfl⟩
  exact jP.2 ⟨b,sD.2 ⟨(h.mem b).2 h1,by simpa using h2⟩,rfl⟩
theorem Vj{T:Nat}{R:List Ru}{O:List It}{x j:Nat}(hj:j<O.length):dV T R O x (j+1)=dV T R O x j++(if kJ T R (O.getD j (0,0)) x then [((O.getD j (0,0)).1,(O.getD j (0,0)).2+1)] else []):=by
 unfold dV;have e:O.getD j (0,0)=O[j]:=by simp[List.getD,hj]
 rw[fT hj,Dt,fD,e]
 congr 1
 by_cases h:kJ T R O[j] x
 ·simp[h]
 ·simp[h]
theorem Vk{T:Nat}{R:List Ru}{O:List It}{x:Nat}{S:aV}(h:xM O S):dV T R O x O.length=[]↔¬ ∃i,S i/\kJ T R i x:=by
 constructor
 ·rintro e ⟨i,h1,h2⟩
  have:(i.1,i.2+1)∈dV T R O x O.length:=(OP h _).2 ⟨i,h1,h2,rfl⟩;rw[e]at this;cases this
 ·intro hn
  refine List.eq_nil_iff_forall_not_mem.2 λi hi=> ?_;obtain⟨b,h1,h2,_⟩:=(OP h i).1 hi;exact hn ⟨b,h1,h2⟩
theorem ac5{T:Nat}{R:List Ru}{O C:List It}{x:Nat}{S:aV}(h:xM O S)(hn:C.Nodup)(hC:∀i,i∈C↔Cl R (· ∈dV T R O x O.length) i):xM C (rE T R S x):=by
 refine⟨hn,λi=>(hC i).trans ?_⟩;have e:(λi=>i∈dV T R O x O.length)=Ef T R S x:=funext λi=>propext (OP h i);unfold rE;rw[<-e]
def qb(R:List Ru)(i:It):Prop:=i.1<=R.length/\i.2<=(aR R i.1).length
def KG(R:List Ru):List It:=(List.range (R.length+1)).flatMap λr=>(List.range ((aR R r).length+1)).map λd=>(r,d)
theorem ac6{R:List Ru}{i:It}(h:qb R i):i∈KG R:=by
 unfold KG;rw[Aa];exact⟨i.1,jC.2 (by have:=h.1;omega),jP.2 ⟨i.2,jC.2 (by have:=h.2;omega),rfl⟩⟩
theorem ac7{R:List Ru}(h8:∀r,r<=R.length->(aR R r).length<=8):(KG R).length<=(R.length+1)*9:=by
 unfold KG
 have:∀n,n<=R.length+1->((List.range n).flatMap λr=>(List.range ((aR R r).length+1)).map λd=>((r,d):It)).length<=n*9:=by
  intro n
  induction n with
  |zero=>simp
  |succ n ih=>
   intro hn;rw[pF,qQ,aS];have h1:=ih (by omega);have h2:=h8 n (by omega);simp only[gV,List.flatMap_nil,qp,cK,qR];omega
 exact this _ (ah _)
theorem KH{R:List Ru}(h8:∀r,r<=R.length->(aR R r).length<=8){O:List It}(hn:O.Nodup)(ho:∀i∈O,qb R i):O.length<=(R.length+1)*9:=
 aZ (Vh hn λi hi=>ac6 (ho i hi)) (ac7 h8)
theorem OQ{R:List Ru}{S:aV}(hS:∀i,S i->qb R i){i:It}(h:Cl R S i):qb R i:=by
 induction h with
 |base hb=>exact hS _ hb
 |step _ _ h2 _ _=>exact⟨iQ h2,aP _⟩
theorem ac8{T:Nat}{R:List Ru}{S:aV}{x:Nat}(hS:∀i,S i->qb R i):∀i,Ef T R S x i->qb R i:=by
 rintro i ⟨b,h1,⟨s,h2,_⟩,rfl⟩;have:=(qw.1 h2).1;exact⟨(hS b h1).1,by simp only;omega⟩
section
variable{T N:Nat}{R:List Ru}{OL:List (List It)}{Ls:List aV}{k x:Nat}
theorem Vl{α:Type}{L:List α}{y d:α}{i:Nat}(hi:i<L.length):(L++[y]).getD i d=L.getD i d:=by simp[List.getD,List.getElem?_append_left hi]
theorem Vm{α:Type}{L:List α}{y d:α}{i:Nat}(hi:i=L.length):(L++[y]).getD i d=y:=by subst hi;simp[List.getD]
theorem Vn{O:List It}{j:Nat}:(dV T R O x j).length<=O.length:=by
 unfold dV;rw[cK];refine aZ (vv _ _) ?_;rw[fq];omega
theorem ac9{O:List It}{j r d:Nat}(hj:j<O.length)(he:O.getD j (0,0)=(r,d))(h:kJ T R (r,d) x):dV T R O x (j+1)=dV T R O x j++[(r,d+1)]:=by
 rw[Vj hj,he,au h]
theorem Vo{O:List It}{j r d:Nat}(hj:j<O.length)(he:O.getD j (0,0)=(r,d))(h:¬kJ T R (r,d) x):dV T R O x (j+1)=dV T R O x j:=by
 rw[Vj hj,he,aj h,qp]
theorem Vp(L:List aV)(k x:Nat):∃E,(visit T R L k x).2=L++E:=by
 unfold visit;split
 ·split
  ·exact⟨[],by simp⟩
  ·exact⟨_,rfl⟩
 ·exact⟨[],by simp⟩
theorem OT(k x:Nat)(L:List aV):(di T R k x L).1.length=x:=by
 induction x with
 |zero=>rfl
 |succ x ih=>
  have e:di T R k (x+1) L=lH T R k x (di T R k x L):=rfl;rw[e,lH];simp[ih]
theorem KI(k x:Nat)(L:List aV):∃E,(di T R k x L).2=L++E:=by
 induction x with
 |zero=>exact⟨[],by simp[di,bf]⟩
 |succ x ih=>
  obtain⟨E,hE⟩:=ih;have e:di T R k (x+1) L=lH T R k x (di T R k x L):=rfl;obtain⟨F,hF⟩:=Vp (T:=T) (R:=R) (di T R k x L).2 k x;exact⟨E++F,by rw[e,lH];simp only;rw[hF,hE,mG]⟩
theorem ada{k x y:Nat}{L:List aV}(h:x<=y):(di T R k x L).2.length<=(di T R k y L).2.length:=by
 induction h with
 |refl=>exact ah _
 |step _ ih=>
  rename_i m _;have e:di T R k (m+1) L=lH T R k m (di T R k m L):=rfl;rw[e,lH];exact aZ ih ac3
theorem Vq(k:Nat):(ax T N R k).1.length=k:=by
 induction k with
 |zero=>rfl
 |succ k ih=>
  have e:ax T N R (k+1)=mh T N R k (ax T N R k):=rfl;rw[e,mh];simp[ih]
theorem OU{j k:Nat}(h:j<=k):(ax T N R j).2.length<=(ax T N R k).2.length:=by
 induction h with
 |refl=>exact ah _
 |step _ ih=>
  rename_i m _;have e:ax T N R (m+1)=mh T N R m (ax T N R m):=rfl;obtain⟨E,hE⟩:=KI (T:=T) (R:=R) m (T+N) (ax T N R m).2;rw[e,mh];simp only;rw[hE,aS];omega
def Whole(T N:Nat)(R:List Ru)(K:Nat):Prop:=(ax T N R K).2.length=K
def More(T N:Nat)(R:List Ru)(m:Nat):Prop:=∃k x,k<(ax T N R k).2.length/\x<=T+N/\m<(di T R k x (ax T N R k).2).2.length
theorem AP{K m:Nat}(h:Whole T N R K)(hK:K<=m):¬More T N R m:=by
 rintro ⟨k,x,h1,h2,h3⟩;by_cases hk:k<K
 ·have e:ax T N R (k+1)=mh T N R k (ax T N R k):=rfl
  have l1:=ada (T:=T) (R:=R) (k:=k) (L:=(ax T N R k).2) h2;have l2:(di T R k (T+N) (ax T N R k).2).2.length=(ax T N R (k+1)).2.length:=by rw[e,mh]
  have l3:=OU (T:=T) (N:=N) (R:=R) (show k+1<=K by omega);unfold Whole at h;omega
 ·
  have hfix:∀j,K<=j->(ax T N R j).2.length=K:=by
   intro j hj
   induction hj with
   |refl=>exact h
   |step hj ih=>
    rename_i j;have e:ax T N R (j+1)=mh T N R j (ax T N R j):=rfl
    have hno:∀y L,L.length=K->(di T R j y L).2=L:=by
     intro y L hL
     induction y with
     |zero=>rfl
     |succ y ihy=>
      have e2:di T R j (y+1) L=lH T R j y (di T R j y L):=rfl;rw[e2,lH];simp only;rw[ihy,OM];rintro ⟨i,hi,_⟩;rw[List.getD,nJ (by have hj':K<=j:=hj;omega)]at hi;exact hi
    rw[e,mh];simp only;rw[hno _ _ ih];exact ih
  have:=hfix k (by omega);omega
end
section
variable{T N:Nat}{R:List Ru}
structure AQ(T:Nat)(R:List Ru)(Ls:List aV)(k x:Nat)(z:Int):Prop where
 some:(∃i,Ls.getD k cu i/\kJ T R i x)->∃n:Nat,z=n/\n<Ls.length/\Ls.getD n cu=rE T R (Ls.getD k cu) x
 none:(¬ ∃i,Ls.getD k cu i/\kJ T R i x)->z= -1
theorem GU{L E:List aV}{n:Nat}(h:n<L.length):(L++E).getD n cu=L.getD n cu:=by simp[List.getD,List.getElem?_append_left h]
theorem AQ.more{Ls:List aV}{k x:Nat}{z:Int}(h:AQ T R Ls k x z)(hk:k<Ls.length)(E:List aV):AQ T R (Ls++E) k x z:=by
 refine⟨λhx=> ?_,λhx=> ?_⟩
 ·rw[GU hk]at hx⊢
  obtain⟨n,h1,h2,h3⟩:=h.some hx;exact⟨n,h1,by simp;omega,by rw[GU h2];exact h3⟩
 ·rw[GU hk]at hx
  exact h.none hx
theorem adb{L:List aV}{k x:Nat}(hk:k<L.length):AQ T R (visit T R L k x).2 k x (visit T R L k x).1:=by
 unfold visit;by_cases h:∃i,L.getD k cu i/\kJ T R i x
 ·rw[au h]
  by_cases h2:∃n,n<L.length/\L.getD n cu=rE T R (L.getD k cu) x
  ·rw[dif_pos h2]
   exact⟨λ_=>⟨_,rfl,(Classical.choose_spec h2).1,(Classical.choose_spec h2).2⟩,λhn=>absurd h hn⟩
  ·rw[dif_neg h2]
   refine⟨λ_=>⟨L.length,rfl,by simp,?_⟩,λhn=> ?_⟩
   ·rw[GU hk];simp[List.getD]
   ·rw[GU hk]at hn;exact absurd h hn
 ·rw[aj h]
  exact⟨λhh=>absurd hh h,λ_=>rfl⟩
theorem ade{L:List aV}{k:Nat}(hk:k<L.length)(x:Nat):∀y,y<x->AQ T R (di T R k x L).2 k y ((di T R k x L).1.getD y 0):=by
 induction x with
 |zero=>intro y hy;exact absurd hy (iI _)
 |succ x ih=>
  intro y hy;have e:di T R k (x+1) L=lH T R k x (di T R k x L):=rfl;obtain⟨E,hE⟩:=KI (T:=T) (R:=R) k x L;have hk':k<(di T R k x L).2.length:=by rw[hE,aS];omega
  have hl:=OT (T:=T) (R:=R) k x L;rw[e,lH];simp only;rcases fJ.1 hy with hy|rfl
  ·obtain⟨F,hF⟩:=Vp (T:=T) (R:=R) (di T R k x L).2 k x
   rw[hF];have:=(ih y hy).more hk' F;have e2:((di T R k x L).1++[(visit T R (di T R k x L).2 k x).1]).getD y 0=(di T R k x L).1.getD y 0:=by simp[List.getD,List.getElem?_append_left (show y<(di T R k x L).1.length by omega)]
   rw[e2];exact this
  ·have e2:((di T R k y L).1++[(visit T R (di T R k y L).2 k y).1]).getD y 0=(visit T R (di T R k y L).2 k y).1:=by
    rw[List.getD,o9 (by omega),hl];simp
   rw[e2];exact adb hk'
theorem OV(j k:Nat)(h:j<=k):∃E,(ax T N R k).2=(ax T N R j).2++E:=by
 induction h with
 |refl=>exact⟨[],by simp⟩
 |step _ ih=>
  rename_i m _;obtain⟨E,hE⟩:=ih;obtain⟨F,hF⟩:=KI (T:=T) (R:=R) m (T+N) (ax T N R m).2;have e:ax T N R (m+1)=mh T N R m (ax T N R m):=rfl;exact⟨E++F,by rw[e,mh];simp only;rw[hF,hE,mG]⟩
theorem OW{K:Nat}(hK:∀k,k<K->k<(ax T N R k).2.length):∀k,k<K->∀x,x<T+N->((ax T N R K).1.getD k []).length=T+N/\AQ T R (ax T N R K).2 k x (((ax T N R K).1.getD k []).getD x 0):=by
 induction K with
 |zero=>intro k hk;exact absurd hk (iI _)
 |succ K ih=>
  intro k hk x hx;have e:ax T N R (K+1)=mh T N R K (ax T N R K):=rfl;have hl:=Vq (T:=T) (N:=N) (R:=R) K;obtain⟨F,hF⟩:=KI (T:=T) (R:=R) K (T+N) (ax T N R K).2;rw[e,mh];simp only;rcases fJ.1 hk with hk|rfl
  ·obtain⟨h1,h2⟩:=ih (λk hk=>hK k (by omega)) k hk x hx
   have e2:((ax T N R K).1++[(di T R K (T+N) (ax T N R K).2).1]).getD k []=(ax T N R K).1.getD k []:=by simp[List.getD,List.getElem?_append_left (show k<(ax T N R K).1.length by omega)]
   have hkl:k<(ax T N R K).2.length:=jg (hK k (by omega)) (OU (by omega));rw[e2,hF];exact⟨h1,h2.more hkl F⟩
  ·have e2:((ax T N R k).1++[(di T R k (T+N) (ax T N R k).2).1]).getD k []=(di T R k (T+N) (ax T N R k).2).1:=by
    rw[List.getD,o9 (by omega),hl];simp
   rw[e2];exact⟨OT _ _ _,ade (hK k (by omega)) (T+N) x hx⟩
theorem GV{K:Nat}(h:Whole T N R K):∀k,k<K->k<(ax T N R k).2.length:=by
 intro k hk;refine Dr λhn=> ?_
 have hfix:∀j,k<=j->(ax T N R j).2.length<=k:=by
  intro j hj
  induction hj with
  |refl=>omega
  |step hj ih=>
   rename_i j;have e:ax T N R (j+1)=mh T N R j (ax T N R j):=rfl
   have hno:∀y L,L.length<=k->(di T R j y L).2=L:=by
    intro y L hL
    induction y with
    |zero=>rfl
    |succ y ihy=>
     have e2:di T R j (y+1) L=lH T R j y (di T R j y L):=rfl;rw[e2,lH];simp only;rw[ihy,OM];rintro ⟨i,hi,_⟩;rw[List.getD,nJ (by have hj':k<=j:=hj;omega)]at hi;exact hi
   rw[e,mh];simp only;rw[hno _ _ ih];exact ih
 have:=hfix K (by omega);unfold Whole at h;omega
def AR(R:List Ru)(S:aV):Prop:=∃S0,S=Cl R S0
theorem adf{L:List aV}{k x:Nat}(h:∀S∈L,AR R S):∀S∈(visit T R L k x).2,AR R S:=by
 unfold visit;split
 ·split
  ·exact h
  ·intro S hS
   rcases iV.1 hS with hS|hS
   ·exact h S hS
   ·simp only[gG]at hS
    exact⟨_,hS⟩
 ·exact h
theorem Vr(k:Nat):∀S∈(ax T N R k).2,AR R S:=by
 induction k with
 |zero=>intro S hS;simp only[ax,bf,gG]at hS;exact⟨_,hS⟩
 |succ k ih=>
  have e:ax T N R (k+1)=mh T N R k (ax T N R k):=rfl;rw[e,mh];simp only
  have:∀x L,(∀S∈L,AR R S)->∀S∈(di T R k x L).2,AR R S:=by
   intro x L hL
   induction x with
   |zero=>exact hL
   |succ x ihx=>
    have e:di T R k (x+1) L=lH T R k x (di T R k x L):=rfl;rw[e,lH];exact adf ihx
  exact this _ _ ih
theorem adg{S:aV}(h:AR R S){i:It}(hi:S i){m:Int}(h1:(aR R i.1)[i.2]?=some (false,m)){n:Nat}(h2:n<R.length)(h3:(R.getD n (0,[])).1=m):S (n,0):=by
 obtain⟨S0,rfl⟩:=h;exact Cl.step (r:=i.1) (d:=i.2) hi h1 h2 h3
theorem Vt{S:aV}{i:It}(hi:S i){s:Sy}{x:Nat}(h1:(aR R i.1)[i.2]?=some s)(h2:gy T s=x):rE T R S x (i.1,i.2+1):=Cl.base ⟨i,hi,⟨s,h1,h2⟩,rfl⟩
end
inductive uP(T:Nat)(R:List Ru)(uQ:List Sy->Nat->Bool)(nR:List Sy->Bool)(NL:List (List Int))(Ls:List aV):Nat->It->Nat->Prop
 |start:uP T R uQ nR NL Ls 0 (R.length,0) T
 |on {k:Nat} {i:It} {t:Nat} {s:Sy} {n:Nat} (h:uP T R uQ nR NL Ls k i t) (h1:(aR R i.1)[i.2]?=some s) (h2:(NL.getD k []).getD (gy T s).toNat 0=(n:Int)):uP T R uQ nR NL Ls n (i.1,i.2+1) t
 |begins {k:Nat} {i:It} {t:Nat} {m:Int} {n:Nat} (hk:k<Ls.length) (h:Ls.getD k cu i) (h1:(aR R i.1)[i.2]?=some (false,m)) (h2:n<R.length) (h3:(R.getD n (0,[])).1=m) (ht:t<=T) (h4:uQ ((aR R i.1).drop (i.2+1)) t=true):uP T R uQ nR NL Ls k (n,0) t
 |nothing {k:Nat} {i:It} {t:Nat} {m:Int} {n:Nat} (h:uP T R uQ nR NL Ls k i t) (h1:(aR R i.1)[i.2]?=some (false,m)) (h2:n<R.length) (h3:(R.getD n (0,[])).1=m) (h4:nR ((aR R i.1).drop (i.2+1))=true):uP T R uQ nR NL Ls k (n,0) t
end Go.Proofs.YthbifaoaiggooaaGreatDoor
namespace Go.Proofs.YthbifaoaiggooaaGreatDoor
open Go.RowKit
def AU(Nu:List Bool)(Fi:List (List Bool))(T t:Nat):List Sy->Bool×Bool
 | []=>(false,true)
 |(true,v)::_=>(decide (v=(t:Int)),false)
 |(false,v)::l=>if decide (t<T)&&(Fi.getD v.toNat []).getD t false then (true,false) else if Nu.getD v.toNat false then AU Nu Fi T t l else (false,false)
end Go.Proofs.YthbifaoaiggooaaGreatDoor
namespace Go.Proofs.YthbifaoaiggooaaGreatDoor
abbrev KJ:=Nat×Nat->List Bool
section
variable{dom:Nat×Nat->Option Nat}{Z:Nat×Nat->Nat->Prop}{X Y W:KJ}{g h:Bool}
end
section
variable(OL:List (List It))(NL:List (List Int))(R:List Ru)(T:Nat)(Nu:List Bool)(Fi:List (List Bool))
def toN(k:Nat)(s:Sy):Nat:=((NL.getD k []).getD (gy T s).toNat 0).toNat
end
section
variable{T N:Nat}{R:List Ru}{OL:List (List It)}{NL:List (List Int)}{Ls:List aV}{dom:Nat×Nat->Option Nat}{Nu:List Bool}{Fi:List (List Bool)}{k j t:Nat}{X:KJ}
end
def Cj(Nu:List Bool)(l:List Sy):Bool:=l.all λs=> !s.1&&Nu.getD s.2.toNat false
def sZ(Nu:List Bool)(Fi:List (List Bool))(T:Nat)(l:List Sy)(t:Nat):Bool:=(AU Nu Fi T t l).1
section
variable{T N:Nat}{R:List Ru}{OL:List (List It)}{NL:List (List Int)}{Ls:List aV}{dom:Nat×Nat->Option Nat}{Nu:List Bool}{Fi:List (List Bool)}{X:KJ}
abbrev KL(T:Nat)(R:List Ru)(Nu:List Bool)(Fi:List (List Bool))(NL:List (List Int))(Ls:List aV):=uP T R (sZ Nu Fi T) (Cj Nu) NL Ls
end
section
variable(OL:List (List It))(NL:List (List Int))(R:List Ru)(T:Nat)(Nu:List Bool)(Fi:List (List Bool))
end
section
variable{T N:Nat}{R:List Ru}{OL:List (List It)}{NL:List (List Int)}{Ls:List aV}{dom:Nat×Nat->Option Nat}{Nu:List Bool}{Fi:List (List Bool)}{X:KJ}
end
end Go.Proofs.YthbifaoaiggooaaGreatDoor
namespace Go.Proofs.YthbifaoaiggooaaGreatDoor
open Go.RowKit
theorem Tryz.infoBool:(Tryz.prog.info? 4).map (λi=>(i.zero,i.size,i.bytes))=some (some (.bool false),1,1):=by kernel_rfl
theorem Eg(n:Nat)(hn:n<=1000000)(u:World):(Instr.makeSlice 61 (.int .i64 n) (.int .i64 n)).run Tryz.prog u= .ok (.slice (some ⟨u.heap.size,0,none⟩) n n) (u.alloc (.cells (madeCells #[.bool false] n) 4)):=by
 obtain⟨i0,hi,hz0,hz1,hz2⟩:=fK Tryz.infoBool;have h:=run_make (P:=Tryz.prog) u 61 4 i0 (.bool false) Tryz.underlying61 hi hz0 .i64 .i64 n n (by omega) (su _) (by rw[hz2];omega) (by omega);simpa [hz1,Value.cells] using h
def gY(w:World)(B g N:Nat)(X:List Bool):Prop:=w.ownsRow B 4 1 (.slice (some ⟨g,0,none⟩) N N) N (X.map Value.bool)
section
variable{w:World}{B g N:Nat}{X:List Bool}
theorem gY.len(h:gY w B g N X):X.length=N:=by
 have:(X.map Value.bool).length=N*1:=h.1;simpa using this
theorem gY.cell(h:gY w B g N X){m:Nat}(hm:m<N):w.cell? ⟨g,m,none⟩=some (.bool (X.getD m false))/\w.frozen? ⟨g,m,none⟩=false:=by
 have hl:=h.len;refine⟨?_,World.ownsRow.frozenAt h m⟩;rw[World.ownsRow.cellAt h m (by omega)];simp[List.getD,show m<X.length by omega]
theorem gY.set(h:gY w B g N X)(m:Nat)(v:Bool):gY (w.setCell ⟨g,m,none⟩ (.bool v)) B g N (X.set m v):=by
 have:=(World.ownsRow.stored h m (.bool v)).1;unfold gY
 rwa [Dv]
theorem gY.ge(h:gY w B g N X):N≠0->B<=g:=λhN=>by
 obtain⟨g',c,e,h1,_⟩:=World.ownsRow.form h (by omega);cases e;exact h1
end
theorem OX(w:World){N:Nat}(hN:N<=maxLen):gY (w.alloc (.cells (madeCells #[.bool false] N) 4)) w.heap.size w.heap.size N (List.replicate N false):=by
 have:=sM (base:=w.heap.size) (e:=4) (size:=1) w (madeCells #[.bool false] N) N (ah _) hN (by simp[size_madeCells]);rw[toList_madeCells_one]at this;unfold gY;simpa using this
theorem gY.below{w w':World}{B g N:Nat}{X:List Bool}(h:gY w B g N X)(hb:Below w.heap.size w w'):gY w' B g N X:=own_below h hb λk hk=>(World.ownsRow.lt h k hk).2
theorem gY.mono{w:World}{B B' g N:Nat}{X:List Bool}(h:gY w B g N X)(hB:B'<=B):gY w B' g N X:=lq h hB
section
variable{ι:Type}{w w':World}{B:Nat}{c c':eP ι}{X X':ι->List Bool}
theorem adh(w:World)(B:Nat){c:eP ι}{X:ι->List Bool}(h:∀i,c.dom i=none):Bt w B c X:=
 ⟨λi r hr=>by simp[eP.P,h i]at hr,λi j a b _ ha=>by simp[eP.P,h i]at ha⟩
theorem KM(i:ι){n:Nat}(h:Bt w B c X)(hb:Below w.heap.size w w')(hd:c'.dom i=some n)(hrow:w'.ownsRow B 4 1 (c'.V i) n ((X' i).map Value.bool))(hnew:∀g,(c'.V i).ownBlock=some g->w.heap.size<=g)
 (he:∀j,j≠i->∀m,c'.dom j=some m->c.dom j=some m/\c'.V j=c.V j/\X' j=X j):Bt w' B c' X':=by
 have old:∀j r,j≠i->c'.P X' j=some r->c.P X j=some r:=λj r hj hr=>by
  cases hm:c'.dom j with
  |none=>simp[eP.P,hm]at hr
  |some m=>
   obtain⟨h1,h2,h3⟩:=he j hj m hm;simp only[eP.P,hm,h1,Option.map_some,h2,h3]at hr⊢;exact hr
 have new:∀r,c'.P X' i=some r->r=⟨c'.V i,4,1,n,(X' i).map Value.bool⟩:=λr hr=>by
  rw[eP.BU hd]at hr;exact(yL hr).symm
 have hO:=aA.below h hb (ah _);refine⟨λj r hr=> ?_,λj k a b hjk ha hb' g h1 h2=> ?_⟩
 ·by_cases hj:j=i
  ·subst hj
   rw[new r hr];exact hrow
  ·exact hO.own j r (old j r hj hr)
 ·by_cases hj:j=i
  ·subst hj
   have hk:k≠j:=λe=>hjk e.symm;rw[new a ha]at h1;have:=hnew g h1;have:=(aA.lt h (old k b hk hb') h2).2;omega
  ·by_cases hk:k=i
   ·subst hk
    rw[new b hb']at h2;have:=hnew g h2;have:=(aA.lt h (old j a hj ha) h1).2;omega
   ·exact aA.apart h j k a b hjk (old j a hj ha) (old k b hk hb') g h1 h2
end
def set2(F:List (List Bool))(n t:Nat):List (List Bool):=F.set n ((F.getD n []).set t true)
theorem adi(F:List (List Bool))(n t:Nat):(set2 F n t).length=F.length:=by simp[set2]
theorem GX(F:List (List Bool))(n t m:Nat):(set2 F n t).getD m []=if m=n/\n<F.length then (F.getD n []).set t true else F.getD m []:=by
 unfold set2;by_cases h:m=n
 ·subst h
  by_cases hl:m<F.length
  ·simp[List.getD,hl]
  ·simp[List.getD,hl]
 ·have h':n≠m:=λe=>h e.symm
  simp[List.getD,List.getElem?_set_ne h',h]
inductive Ix where
 |st|null|fh|gh
 |f (n:Nat)
 |g (n:Nat)
 deriving DecidableEq
def bZ(sb T N mf mg:Nat)(nv fv gv:Value)(vf vg:Nat->Value)(Nu:List Bool)(Fi Fo:List (List Bool)):Ix->Option Row
 | .st=>some ⟨.slice (some ⟨sb,0,none⟩) 1 1,64,3,1,[nv,fv,gv]⟩
 | .null=>some ⟨nv,4,1,N,Nu.map Value.bool⟩
 | .fh=>some ⟨fv,61,1,mf,(List.range mf).map vf⟩
 | .gh=>some ⟨gv,61,1,mg,(List.range mg).map vg⟩
 | .f n=>if n<mf then some ⟨vf n,4,1,T,(Fi.getD n []).map Value.bool⟩ else none
 | .g n=>if n<mg then some ⟨vg n,4,1,T+1,(Fo.getD n []).map Value.bool⟩ else none
section
variable{w:World}{base sb T N mf mg:Nat}{nv fv gv:Value}{vf vg:Nat->Value}{Nu:List Bool}{Fi Fo:List (List Bool)}
theorem aA.fields(h:aA w base (bZ sb T N mf mg nv fv gv vf vg Nu Fi Fo)):
 w.cell? ⟨sb,0,none⟩=some nv/\w.cell? ⟨sb,1,none⟩=some fv/\w.cell? ⟨sb,2,none⟩=some gv/\(∀j,w.frozen? ⟨sb,j,none⟩=false):=by
 have hh:=h.own .st _ rfl;simp only at hh;exact⟨hh.cellAt 0 (by omega),hh.cellAt 1 (by omega),hh.cellAt 2 (by omega),hh.frozenAt⟩
theorem aA.adj(h:aA w base (bZ sb T N mf mg nv fv gv vf vg Nu Fi Fo))(hF:Fo.length=mg){n fg fc:Nat}(hn:n<mg)(hv:vg n= .slice (some ⟨fg,0,none⟩) (T+1) fc)(t:Nat):
 aA (w.setCell ⟨fg,t,none⟩ (.bool true)) base (bZ sb T N mf mg nv fv gv vf vg Nu Fi (set2 Fo n t)):=by
 have:=h.store (i:= .g n) (g:=fg) (n:=T+1) (cap:=fc) (e:=4) (size:=1) (xs:=(Fo.getD n []).map Value.bool) (by simp[bZ,hn,hv]) t (.bool true)
 have e:upd (bZ sb T N mf mg nv fv gv vf vg Nu Fi Fo) (.g n) ⟨.slice (some ⟨fg,0,none⟩) (T+1) fc,4,1,T+1,((Fo.getD n []).map Value.bool).set t (.bool true)⟩=bZ sb T N mf mg nv fv gv vf vg Nu Fi (set2 Fo n t):=by
  funext x
  cases x with
  |g m=>
   by_cases hm:m=n
   ·subst hm
    simp only[upd,bZ,bQ,hn];rw[GX,au ⟨rfl,by omega⟩,Dv,hv]
   ·have:Ix.g m≠Ix.g n:=λe=>hm (by cases e;rfl)
    simp only[upd,bZ,aj this];have e2:∀X:List (List Bool),(set2 X n t).getD m []=X.getD m []:=λX=>by rw[GX,aj (λe=>hm e.1)]
    rw[e2]
  |_=>simp[upd,bZ]
 rwa [e]at this
theorem aA.make{ι:Type}[DecidableEq ι]{w:World}{base:Nat}{P:ι->Option Row}(h:aA w base P)(i:ι)(n:Nat)(hb:base<=w.heap.size)(hn:n<=maxLen):
 aA (w.alloc (.cells (madeCells #[.bool false] n) 4)) base (upd P i ⟨.slice (some ⟨w.heap.size,0,none⟩) n n,4,1,n,(List.replicate n false).map Value.bool⟩):=by
 refine h.new i (World.grownBy_alloc w _ none) ?_ (λg hg=>by simpa [Value.ownBlock] using hg.symm);have:=sM (base:=base) (e:=4) (size:=1) w (madeCells #[.bool false] n) n hb hn (by simp[size_madeCells]);rw[toList_madeCells_one]at this;simpa using this
theorem aA.adk{m:Nat}(h:aA w base (bZ sb T N m mg nv fv gv vf vg Nu Fi Fo))(hF:Fi.length=m)(hb:base<=w.heap.size)(hT:T<=maxLen){w1:World}{o:Obj}{g cap:Nat}
 (hg:((w.alloc (.cells (madeCells #[.bool false] T) 4)).alloc o).drew.grownBy w1 fv.ownBlock)
 (hown:w1.ownsRow base 61 1 (.slice (some ⟨g,0,none⟩) (m+1) cap) (m+1) ((List.range m).map vf++[.slice (some ⟨w.heap.size,0,none⟩) T T])) (hat:fv.ownBlock=some g\/g=w.heap.size+2):
 aA (w1.setCell ⟨sb,1,none⟩ (.slice (some ⟨g,0,none⟩) (m+1) cap)) base
  (bZ sb T N (m+1) mg nv (.slice (some ⟨g,0,none⟩) (m+1) cap) gv (λn=>if n=m then .slice (some ⟨w.heap.size,0,none⟩) T T else vf n) vg Nu (Fi++[List.replicate T false]) Fo):=by
 have h1:=((h.make (.f m) T hb hT).alloc o).drew
 have h2:=h1.turn (i:= .fh) (r:=⟨fv,61,1,m,(List.range m).map vf⟩) (r':=⟨.slice (some ⟨g,0,none⟩) (m+1) cap,61,1,m+1,(List.range m).map vf++[.slice (some ⟨w.heap.size,0,none⟩) T T]⟩)
  (by rw[uG _ (by simp)];rfl) hg hown (λk hk=>by
   simp only[Value.ownBlock,bM]at hk;subst hk
   simpa using hat)
 have h3:=h2.store (i:= .st) (g:=sb) (n:=1) (cap:=1) (e:=64) (size:=3) (xs:=[nv,fv,gv]) (by rw[uG _ (by simp),uG _ (by simp)];rfl) 1 (.slice (some ⟨g,0,none⟩) (m+1) cap)
 have e:upd (upd (upd (bZ sb T N m mg nv fv gv vf vg Nu Fi Fo) (.f m) ⟨.slice (some ⟨w.heap.size,0,none⟩) T T,4,1,T,(List.replicate T false).map Value.bool⟩) .fh
  ⟨.slice (some ⟨g,0,none⟩) (m+1) cap,61,1,m+1,(List.range m).map vf++[.slice (some ⟨w.heap.size,0,none⟩) T T]⟩) .st ⟨.slice (some ⟨sb,0,none⟩) 1 1,64,3,1,[nv,fv,gv].set 1 (.slice (some ⟨g,0,none⟩) (m+1) cap)⟩=
  bZ sb T N (m+1) mg nv (.slice (some ⟨g,0,none⟩) (m+1) cap) gv (λn=>if n=m then .slice (some ⟨w.heap.size,0,none⟩) T T else vf n) vg Nu (Fi++[List.replicate T false]) Fo:=by
  funext x
  cases x with
  |st=>simp[upd,bZ]
  |null=>simp[upd,bZ]
  |gh=>simp[upd,bZ]
  |g n=>simp[upd,bZ]
  |fh=>
   simp only[upd,bZ];simp only[reduceCtorEq,bN,bQ]
   congr 2
   rw[pF,fD]
   congr 1
   ·refine yH λa ha=> ?_
    have:=jC.1 ha;rw[aj (by omega)]
   ·simp
  |f n=>
   simp only[upd,bZ,reduceCtorEq,bN,Ix.f.injEq];by_cases hn:n=m
   ·subst hn
    simp[List.getD,hF]
   ·by_cases hlt:n<m
    ·rw[aj hn,au hlt,au (by omega),aj hn]
     simp[List.getD,List.getElem?_append_left (show n<Fi.length by omega)]
    ·rw[aj hn,aj hlt,aj (by omega)]
 rwa [e]at h3
theorem aA.adl{m:Nat}(h:aA w base (bZ sb T N mf m nv fv gv vf vg Nu Fi Fo))(hF:Fo.length=m)(hb:base<=w.heap.size)(hT:T+1<=maxLen){w1:World}{o:Obj}{g cap:Nat}
 (hg:((w.alloc (.cells (madeCells #[.bool false] (T+1)) 4)).alloc o).drew.grownBy w1 gv.ownBlock)
 (hown:w1.ownsRow base 61 1 (.slice (some ⟨g,0,none⟩) (m+1) cap) (m+1) ((List.range m).map vg++[.slice (some ⟨w.heap.size,0,none⟩) (T+1) (T+1)])) (hat:gv.ownBlock=some g\/g=w.heap.size+2):
 aA (w1.setCell ⟨sb,2,none⟩ (.slice (some ⟨g,0,none⟩) (m+1) cap)) base
  (bZ sb T N mf (m+1) nv fv (.slice (some ⟨g,0,none⟩) (m+1) cap) vf (λn=>if n=m then .slice (some ⟨w.heap.size,0,none⟩) (T+1) (T+1) else vg n) Nu Fi (Fo++[List.replicate (T+1) false])):=by
 have h1:=((h.make (.g m) (T+1) hb hT).alloc o).drew
 have h2:=h1.turn (i:= .gh) (r:=⟨gv,61,1,m,(List.range m).map vg⟩) (r':=⟨.slice (some ⟨g,0,none⟩) (m+1) cap,61,1,m+1,(List.range m).map vg++[.slice (some ⟨w.heap.size,0,none⟩) (T+1) (T+1)]⟩)
  (by rw[uG _ (by simp)];rfl) hg hown (λk hk=>by
   simp only[Value.ownBlock,bM]at hk;subst hk
   simpa using hat)
 have h3:=h2.store (i:= .st) (g:=sb) (n:=1) (cap:=1) (e:=64) (size:=3) (xs:=[nv,fv,gv]) (by rw[uG _ (by simp),uG _ (by simp)];rfl) 2 (.slice (some ⟨g,0,none⟩) (m+1) cap)
 have e:upd (upd (upd (bZ sb T N mf m nv fv gv vf vg Nu Fi Fo) (.g m) ⟨.slice (some ⟨w.heap.size,0,none⟩) (T+1) (T+1),4,1,T+1,(List.replicate (T+1) false).map Value.bool⟩) .gh
  ⟨.slice (some ⟨g,0,none⟩) (m+1) cap,61,1,m+1,(List.range m).map vg++[.slice (some ⟨w.heap.size,0,none⟩) (T+1) (T+1)]⟩) .st ⟨.slice (some ⟨sb,0,none⟩) 1 1,64,3,1,[nv,fv,gv].set 2 (.slice (some ⟨g,0,none⟩) (m+1) cap)⟩=
  bZ sb T N mf (m+1) nv fv (.slice (some ⟨g,0,none⟩) (m+1) cap) vf (λn=>if n=m then .slice (some ⟨w.heap.size,0,none⟩) (T+1) (T+1) else vg n) Nu Fi (Fo++[List.replicate (T+1) false]):=by
  funext x
  cases x with
  |st=>simp[upd,bZ]
  |null=>simp[upd,bZ]
  |fh=>simp[upd,bZ]
  |f n=>simp[upd,bZ]
  |gh=>
   simp only[upd,bZ];simp only[reduceCtorEq,bN,bQ]
   congr 2
   rw[pF,fD]
   congr 1
   ·refine yH λa ha=> ?_
    have:=jC.1 ha;rw[aj (by omega)]
   ·simp
  |g n=>
   simp only[upd,bZ,reduceCtorEq,bN,Ix.g.injEq];by_cases hn:n=m
   ·subst hn
    simp[List.getD,hF]
   ·by_cases hlt:n<m
    ·rw[aj hn,au hlt,au (by omega),aj hn]
     simp[List.getD,List.getElem?_append_left (show n<Fo.length by omega)]
    ·rw[aj hn,aj hlt,aj (by omega)]
 rwa [e]at h3
end
theorem Tryz.infoBools:(Tryz.prog.info? 61).map (λi=>(i.zero,i.size,i.bytes))=some (some (.slice none 0 0),1,24):=by kernel_rfl
def SR(W:World)(B sb T N mf mg:Nat)(Nu:List Bool)(Fi Fo:List (List Bool))(wr:World):Prop:=
 Below B W wr/\B<=wr.heap.size/\Fi.length=mf/\Fo.length=mg/\∃nv fv gv vf vg,aA wr B (bZ sb T N mf mg nv fv gv vf vg Nu Fi Fo)
theorem adm(w:World)(T N:Nat)(hN:N<=maxLen)(o1 o2:Obj):
 SR ((w.alloc o1).alloc o2) (w.heap.size+2) (w.heap.size+1+1+1) T N 0 0 (List.replicate N false) [] []
  ((((w.alloc o1).alloc o2).alloc (.cells (madeCells #[.bool false] N) 4)).alloc (.cells #[.slice (some ⟨w.heap.size+1+1,0,none⟩) N N,.slice none 0 0,.slice none 0 0] 64)):=by
 refine⟨((ai _ _).alloc (by simp) _).alloc (by simp) _,by simp,rfl,rfl,.slice (some ⟨w.heap.size+1+1,0,none⟩) N N,.slice none 0 0,.slice none 0 0,λ_=> .nilIface,λ_=> .nilIface,?_⟩;have h0:aA ((w.alloc o1).alloc o2) (w.heap.size+2) (λ_:Ix=>none):=⟨λi r h=>(by cases h),λi j a b _ h=>(by cases h)⟩;have h1:=h0.make .null N (by simp) hN
 have h2:=h1.new .st (r:=⟨.slice (some ⟨w.heap.size+1+1+1,0,none⟩) 1 1,64,3,1,[.slice (some ⟨w.heap.size+1+1,0,none⟩) N N,.slice none 0 0,.slice none 0 0]⟩)
  (World.grownBy_alloc _ (.cells #[.slice (some ⟨w.heap.size+1+1,0,none⟩) N N,.slice none 0 0,.slice none 0 0] 64) none)
  (by
    have:=sM (base:=w.heap.size+2) (e:=64) (size:=3) (((w.alloc o1).alloc o2).alloc (.cells (madeCells #[.bool false] N) 4)) #[.slice (some ⟨w.heap.size+1+1,0,none⟩) N N,.slice none 0 0,.slice none 0 0] 1 (by simp) (by unfold maxLen;omega) rfl
    simpa using this)
  (λg hg=>by simpa [Value.ownBlock] using hg.symm)
 refine⟨λi r hi=> ?_,λi j a b hij ha hb g h3 h4=> ?_⟩
 ·cases i with
  |st=>cases hi;exact h2.own .st _ (upd_same _ _ _)
  |null=>cases hi;have:=h2.own .null _ (by rw[uG _ (by simp)];exact upd_same _ _ _);simpa using this
  |fh=>cases hi;exact ji _ _ _ _
  |gh=>cases hi;exact ji _ _ _ _
  |f n=>simp[bZ]at hi
  |g n=>simp[bZ]at hi
 ·cases i with
  |f n=>simp[bZ]at ha
  |g n=>simp[bZ]at ha
  |fh=>cases ha;simp[Value.ownBlock]at h3
  |gh=>cases ha;simp[Value.ownBlock]at h3
  |st=>
   cases j with
   |f n=>simp[bZ]at hb
   |g n=>simp[bZ]at hb
   |fh=>cases hb;simp[Value.ownBlock]at h4
   |gh=>cases hb;simp[Value.ownBlock]at h4
   |st=>exact hij rfl
   |null=>cases ha;cases hb;simp only[Value.ownBlock,bM]at h3 h4;omega
  |null=>
   cases j with
   |f n=>simp[bZ]at hb
   |g n=>simp[bZ]at hb
   |fh=>cases hb;simp[Value.ownBlock]at h4
   |gh=>cases hb;simp[Value.ownBlock]at h4
   |null=>exact hij rfl
   |st=>cases ha;cases hb;simp only[Value.ownBlock,bM]at h3 h4;omega
theorem Vu{W wr w1:World}{B sb j:Nat}{o1 o2:Obj}{row:Option Nat}{v:Value}(hB:Below B W wr)(hle:B<=wr.heap.size)(hg:((wr.alloc o1).alloc o2).drew.grownBy w1 row)(hr:∀k,row=some k->B<=k)(hsb:B<=sb):
 Below B W (w1.setCell ⟨sb,j,none⟩ v)/\B<=(w1.setCell ⟨sb,j,none⟩ v).heap.size:=by
 have h1:Below B W ((wr.alloc o1).alloc o2).drew:=((hB.alloc hle o1).alloc (by simp;omega) o2).drew;have hs:=hg.size
 have h2:B<=((wr.alloc o1).alloc o2).drew.heap.size:=by
  have:((wr.alloc o1).alloc o2).drew.heap.size=wr.heap.size+1+1:=by
   show ((wr.alloc o1).alloc o2).heap.size=_;simp
  omega
 exact⟨(h1.grown hg h2 hr).setCell hsb v,by simp;omega⟩
end Go.Proofs.YthbifaoaiggooaaGreatDoor
