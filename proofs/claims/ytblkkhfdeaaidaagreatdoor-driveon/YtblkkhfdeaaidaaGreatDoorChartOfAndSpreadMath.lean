import Derived.Test.YtblkkhfdeaaidaaGreatDoorChartEndAndChartLook
import Derived.Deep.LoopGhost
import Derived.Carry
import Derived.Test.YtblkkhfdeaaidaaGreatDoorTxRlsAndMayG
import Derived.Test.YtblkkhfdeaaidaaGreatDoorTxPaAndLfp
import Derived.Test.YtblkkhfdeaaidaaGreatDoorTxMathAndDerMath
import Derived.Test.YtblkkhfdeaaidaaGreatDoorRows
import Derived.Test.YtblkkhfdeaaidaaGreatDoorMathAndTxSc
import Derived.WalkKit
import Derived.WalkSpells
import Derived.Deep.QuietTactic
import Derived.BigQuiet
import Derived.Deep.RegionWith
import Derived.Deep.Cut
import Derived.Deep.CutRange
import Derived.Deep.DrawnRows
import Derived.Test.YtblkkhfdeaaidaaGreatDoorTxNuAndHeldSeq
set_option maxHeartbeats 6400000
set_option maxRecDepth 100000
namespace Go.Proofs.YtblkkhfdeaaidaaGreatDoor
open Go.RowKit
def FZ:CM:=⟨.slice none 0 0,fun _=> .slice none 0 0,fun _=> .slice none 0 0⟩
def Aq(k T N:Nat)(rv tv:Value):Ad:=⟨k+1+1+1,k,k+1,k+1+1,T,N,rv,tv⟩
theorem Zu(w:World)(T N:Nat)(rv tv:Value):
 aC ((((w.alloc (.map #[] 0)).alloc (.map #[] 0)).alloc (.map #[] 0)).alloc (.cells #[.int .i64 T,.int .i64 N,rv,tv,.map (some w.heap.size),.slice none 0 0,.map (some (w.heap.size+1)),.map (some (w.heap.size+1+1))] 193)) w.heap.size (Aq w.heap.size T N rv tv) FZ cs0 0:=by
 have m1:=CU w Tryz.prog 198 oV;have m2:=CU (w.alloc (.map #[] 0)) Tryz.prog 196 gH;have m3:=CU ((w.alloc (.map #[] 0)).alloc (.map #[] 0)) Tryz.prog 196 gH;simp only[World.size_alloc]at m2 m3;have eI:(fun _=>none)=uT ([]:List aJ):=by funext x;simp[uT]
 have eW:(fun _=>none)=ig cs0.W FZ.VW:=by funext x;simp[ig,cs0]
 have eE:(fun _=>none)=ig cs0.E FZ.VE:=by funext x;simp[ig,cs0]
 refine⟨⟨fun i r hr=> ?_,fun i j x y hij hx hy g h1 h2=> ?_⟩,(((m1.alloc _).alloc _).alloc _).congr eI,((m2.alloc _).alloc _).congr eW,(m3.alloc _).congr eE,fun _ _=>rfl,fun _ _=>rfl,by simp only[Aq];omega,by simp only[Aq];omega,by simp only[Aq];omega,by simp only[Aq];omega⟩
 ·cases i<;>simp only[Pc,Option.some.injEq]at hr<;>subst hr
  ·have:=World.ownsRow_lit (base:=w.heap.size) (e:=193) (size:=8) (((w.alloc (.map #[] 0)).alloc (.map #[] 0)).alloc (.map #[] 0)) #[.int .i64 T,.int .i64 N,rv,tv,.map (some w.heap.size),.slice none 0 0,.map (some (w.heap.size+1)),.map (some (w.heap.size+1+1))] 1 (by simp;omega) (by unfold maxLen;omega) rfl
   simp only[World.size_alloc]at this;exact this
  ·exact World.ownsRow_nil _ _ _ _
  ·exact World.ownsRow_nil _ _ _ _
  ·exact World.ownsRow_nil _ _ _ _
 ·cases i<;>cases j<;>simp only[Pc,Option.some.injEq]at hx hy<;>subst hx<;>subst hy<;>first|exact hij rfl|(cases h2;done)|(cases h1;done)
structure F3(R:List Ru)(tok:List Int)(B:Nat)(d:Ad)(W:World)(st:aL)(v:CM)(nm:Nat)(wq:World):Prop where
 m:aC wq B d v st nm
 nc:nm<=st.c
 c:iG R tok (fun _=>False) st
 b:q9 st
 g:Ag R st (0,0)
 below:Below B W wq
theorem q9.small{st:aL}(h:q9 st):st.I.length<=345960/\st.O.length<=345960/\st.c<=345960:=by
 have:=h.fit;have:=h.cnt;omega
theorem Zv{w:World}{T N:Nat}{rv tv:Value}{R:List Ru}{tok:List Int}(hr:au w w.heap.size rv R)(ht:aP w w.heap.size tv tok)(hm:aD T N R=true)(htl:tok.length<=30):
 Calls Tryz.prog 89 #[.agg #[.int .i64 T,.int .i64 N,rv],tv] w fun r w'=> ∃d v st nm,r= .returned (.pointer (some ⟨d.ca,0,none⟩))/\d.tv=tv/\aC w' (w.heap.size+1) d v st nm/\nm<=1000000/\(st.E (0,0)).length<=1000000/\(tok.length∈st.E (0,0)↔lF R 0 tok)/\Below w.heap.size w w':=by
 obtain⟨hT,hN1,hN,hRl,nP⟩:=fV hm;obtain⟨ra,rc,aG⟩:=hr.1;obtain⟨ta,tc,dW⟩:=ht.1;obtain⟨rl,hrl⟩:∃rl,R.length=rl:=⟨_,rfl⟩;obtain⟨tl,Kt⟩:∃tl,tok.length=tl:=⟨_,rfl⟩;have Dc:Hid (tok.length=tl):=Kt;rw[hrl]at aG;rw[Kt]at dW;clear hrl Kt;subst aG;subst dW;obtain⟨rv,aG⟩:∃rv,Value.slice ra rl rc=rv:=⟨_,rfl⟩;obtain⟨tv,dW⟩:∃tv,Value.slice ta tl tc=tv:=⟨_,rfl⟩;rw[aG]at hr;rw[dW]at ht;have hall:∀it,gY R tok it->it∈oQ:=fun it h=>h.all hRl (fun q hq=>(nP q hq).2.2.1) htl;have hst:=Zu (w.alloc (.cells #[.int .i64 T,.int .i64 N,rv] 26)) T N rv tv;simp only[World.size_alloc]at hst;obtain⟨d,hd⟩:∃d,Aq (w.heap.size+1) T N rv tv=d:=⟨_,rfl⟩;have hca:d.ca=w.heap.size+1+1+1+1:=by rw[<-hd];rfl
 have hdr:d.rv=rv:=by rw[<-hd];rfl
 have hdt:d.tv=tv:=by rw[<-hd];rfl
 rw[hd]at hst;obtain⟨W5,jG⟩:∃W5,(((((w.alloc (.cells #[.int .i64 T,.int .i64 N,rv] 26)).alloc (.map #[] 0)).alloc (.map #[] 0)).alloc (.map #[] 0)).alloc (.cells #[.int .i64 T,.int .i64 N,rv,tv,.map (some (w.heap.size+1)),.slice none 0 0,.map (some (w.heap.size+1+1)),.map (some (w.heap.size+1+1+1))] 193))=W5:=⟨_,rfl⟩;rw[jG]at hst;have hb5:Below w.heap.size w W5:=by rw[<-jG];exact(((((Below.refl _ _).alloc (Nat.le_refl _) _).alloc (by simp) _).alloc (by simp;omega) _).alloc (by simp;omega) _).alloc (by simp;omega) _
 have bg:=Qt hst (R:=R) (n:=0) (p:=0) (by rw[hdr];exact(hr.below hb5).mono (by omega)) hRl (by omega) (by simp[cs0]) (by simp[cs0]);rw[show ((0:Nat):Int)=0 from rfl,hca]at bg
 have QB:Hid (∀wq,Below (w.heap.size+1) W5 wq->au wq (w.heap.size+1) d.rv R/\aP wq (w.heap.size+1) d.tv tok/\Below w.heap.size w wq):=fun wq hb=>by
  rw[hdr,hdt];have h5:Below w.heap.size w wq:=hb5.trans (hb.mono (by omega));exact⟨(hr.below h5).mono (by omega),(ht.below h5).mono (by omega),h5⟩
 have HS:Hid (aC W5 (w.heap.size+1) d FZ cs0 0):=hst;have QC:Hid (∀it,gY R tok it->it∈oQ):=hall;have Df:Hid (∀i,i<R.length->0<=(R.getD i (0,[])).1/\(R.getD i (0,[])).1<(N:Int)/\(R.getD i (0,[])).2.length<=8/\∀s∈(R.getD i (0,[])).2,0<=s.2/\s.2<if s.1 then (T:Int) else (N:Int)):=nP;have QD:Hid (d.tv=tv):=hdt;have Dg:Hid ((((((w.alloc (.cells #[.int .i64 T,.int .i64 N,rv] 26)).alloc (.map #[] 0)).alloc (.map #[] 0)).alloc (.map #[] 0)).alloc (.cells #[.int .i64 T,.int .i64 N,rv,tv,.map (some (w.heap.size+1)),.slice none 0 0,.map (some (w.heap.size+1+1)),.map (some (w.heap.size+1+1+1))] 193))=W5):=jG;clear hr ht hm hst hall hd hdr hdt hb5 jG nP;rw[<-aG,<-dW]at Dg;rw[<-dW]at QD;clear aG dW rv tv;have hmm:= @run_makeMap Tryz.prog
 go_enter Tryz.func89,Tryz.ntmps89
 go_upto_region 2 with fail
 clear hmm;have QE:Hid (w.heap.size+1+1+1+1=d.ca):=hca.symm;clear hca
 go_cut [5] from 6 (fun s5 wx=>s5= .pointer (some ⟨d.ca,0,none⟩)/\∃v st nm,F3 R tok (w.heap.size+1) d W5 st v nm wx)
 case first=>
  rw[Dg.out]
  go_wp2_with (go_at_call 113;refine bg.mono ?_;rintro r w1 ⟨rfl,aA,h3,h4⟩)
  go_meet
  case rel=>
   obtain⟨s1,s2,s3⟩:=Qb R tok;exact⟨by rw[QE.out],_,_,0,h3,Nat.zero_le _,s1,YO QC.out,s2,HS.out.nR h4⟩
 case rest=>
  obtain⟨rfl,v0,st0,QF,cK⟩:=hcut;have qz:Hid (F3 R tok (w.heap.size+1) d W5 st0 v0 QF wc):=cK;clear cK bg HS Dg QE
  go_wp2_with fail
  go_loopg [] (2*mU st0.I+st0.O.length) (fun n wq=> ∃v st nm,n=2*mU st.I+st.O.length/\F3 R tok (w.heap.size+1) d W5 st v nm wq)
  case atStart=>exact⟨v0,st0,QF,rfl,qz.out⟩
  case round=>
   clear qz;obtain⟨v,st,nm,lJ,cK⟩:=hrel;have qz:Hid (F3 R tok (w.heap.size+1) d W5 st v nm wr):=cK;have Ku:Hid (gk=2*mU st.I+st.O.length):=lJ;obtain⟨oa,oc,hov⟩:=cK.m.own.slice (i:= .op) rfl;have lG:v.ov= .slice oa st.O.length oc:=hov;have c5:=(cK.m.cell (i:=5) rfl (by omega)).1;obtain⟨sI,sO,sc⟩:=cK.b.small;by_cases hO:0<st.O.length
   ·obtain⟨g,cap,hgv,_,C8⟩:=cK.m.own.form (i:= .op) rfl hO
    have Dh:v.ov= .slice (some ⟨g,0,none⟩) st.O.length cap:=hgv;obtain⟨k,hk⟩:∃k,st.O.length=k+1:=⟨st.O.length-1,by omega⟩;have ho:=cK.m.own.own .op _ rfl;simp only at ho;obtain⟨it,hit⟩:∃it,dJ st=it:=⟨_,rfl⟩;have hit':st.O.getD k ⟨0,0,0,0⟩=it:=by rw[<-hit];unfold dJ;rw[hk];rfl
    obtain⟨q0,q1,q2,q3⟩:=Qo ho Dh (i:=k) (by omega) hit'
    have hcap:k+1<=cap:=by
     rw[Dh]at ho;rcases ho.2 with⟨e,_⟩|⟨g',cap',cur,e,_,_,h4,_⟩
     ·cases e
     ·injection e with _ _ e3
      omega
    obtain⟨pin,pc⟩:=cK.c.pop hO;rw[hit]at pin pc;have hok:=cK.c.ok it pin;have hlk:=pc.look pin;have hless:=YN cK.b cK.c hO QC.out;rw[hit]at hless;obtain⟨oW,hT1,_⟩:=QB.out wr cK.below;obtain⟨F4,pg⟩:=cK.m.pop Dh hO;rw[hk]at F4 pg;rw[show k+1-1=k from rfl]at F4 pg;have pm:=F4.alloc (.cells #[.int .i64 it.rule,.int .i64 it.read,.int .i64 it.fr,.int .i64 it.upto] 198);have hca:d.ca<wr.heap.size:=(cK.m.kc (.inr (.inr (.inr (.inl rfl))))).2;have pb:=cK.m.nR (pg.alloc (.cells #[.int .i64 it.rule,.int .i64 it.read,.int .i64 it.fr,.int .i64 it.upto] 198));have wl:∀s,((jl st).W s).length<=345960:=fun s=>by have:=cK.b.wl s;show (st.W s).length<=_;omega
    have el:∀s,((jl st).E s).length<=345960:=fun s=>by have:=cK.b.el s;show (st.E s).length<=_;omega
    have hfr:it.fr<=30/\it.upto<=30:=by have:=hok.le;have:=hok.len;omega
    have hrd:=hok.read;have h8:=(Df.out _ hok.rule).2.2.1;have uK:=hok.rule
    have lk:=Zp (R:=R) (tok:=tok) pm (oW.below pb) (hT1.below pb) (a:=it.rule) (b:=it.read) (c:=it.fr) (e:=it.upto)
     ⟨hok.rule,hok.read,hfr.1,hfr.2,hRl,h8,(Df.out _ hok.rule).1,by have:=(Df.out _ hok.rule).2.1;show (R.getD it.rule (0,[])).1<=1000;omega,fun s hs=>by have:=(Df.out _ hok.rule).2.2.2 s hs;split at this<;>omega,htl⟩ (by have:=cK.nc;omega) sI (by show st.O.dropLast.length<=_;simp;omega) wl el
     (fun s x hx=>by
       obtain⟨a1,a2,_⟩:=pc.tF s x hx;have o1:=cK.c.ok x a1;have:=o1.rule;have:=(Df.out _ o1.rule).2.2.1;have:=o1.le;have:=o1.len;unfold di at a2
       exact⟨by simp only[bf];omega,by simp only[bf];omega,by simp only[bf];omega,by simp only[bf];omega⟩)
     (fun s j hj=>by
       obtain⟨_,a2,_⟩:=pc.q8 s j hj;unfold di at hrd
       exact⟨by simp only[bf];omega,by simp only[bf];omega,by simp only[bf];omega,by simp only[bf];omega⟩)
    have Kv:Hid (iG R tok (fun _=>False) (iF R tok it (jl st))):=hlk;have F5:Hid (Less st (iF R tok it (jl st))):=hless;have QG:Hid (Below (w.heap.size+1) wr ((wr.setCell ⟨d.ca,5,none⟩ (.slice (some ⟨g,0,none⟩) k cap)).alloc (.cells #[.int .i64 it.rule,.int .i64 it.read,.int .i64 it.fr,.int .i64 it.upto] 198))):=pb;have QH:Hid (aC ((wr.setCell ⟨d.ca,5,none⟩ (.slice (some ⟨g,0,none⟩) k cap)).alloc (.cells #[.int .i64 it.rule,.int .i64 it.read,.int .i64 it.fr,.int .i64 it.upto] 198)) (w.heap.size+1) d { v with ov:= .slice (some ⟨g,0,none⟩) k cap } (jl st) nm):=pm;have f5:=(cK.m.cell (i:=5) rfl (by omega)).2;rw[Dh,hk]at c5;have i0:(0:Int)<=(k:Int):=Int.natCast_nonneg _;have i1:(k:Int)<(k:Int)+1:=by omega
    have i2:(k:Int)<=(cap:Int):=by omega
    have hkb:k<=345960:=by omega
    obtain⟨QI,QJ,rc',re'⟩:=it;simp only at q0 q1 q2 q3 lk QG QH;clear cK lJ hov lG hgv Dh ho hit hit' pin pc hok hlk hless oW hT1 pm F4 pg pb wl el hfr hrd h8 uK hO hcap C8
    go_wp2_with (go_at_call 114;refine lk.mono ?_;rintro r w1 ⟨rfl,v',h3,h4⟩)
    go_roundg (2*mU (iF R tok ⟨QI,QJ,rc',re'⟩ (jl st)).I+(iF R tok ⟨QI,QJ,rc',re'⟩ (jl st)).O.length)
    case measure=>rw[Ku.out];exact F5.out.less
    case rel=>
     exact⟨v',_,nm+1,rfl,h3,by rw[F5.out.c];have:=qz.out.nc;omega,Kv.out,F5.out.bnd,fun q hq he=>F5.out.mono _ (qz.out.g q hq he),(qz.out.below.trans QG.out).trans (QH.out.nR h4)⟩
   ·have Kw:st.O.length=0:=by omega
    rw[lG,Kw]at c5;have HO:Hid (st.O=[]):=List.length_eq_zero_iff.1 Kw;clear cK lJ hov lG hO Kw
    go_wp2_with fail
    go_ret;refine⟨d,v,st,nm,rfl,QD.out,qz.out.m,by have:=qz.out.nc;omega,by have:=qz.out.b.el (0,0);omega,?_,(QB.out wr qz.out.below).2.2⟩;exact qz.out.c.tells HO.out qz.out.g
end Go.Proofs.YtblkkhfdeaaidaaGreatDoor
namespace Go.Proofs.YtblkkhfdeaaidaaGreatDoor
def dx(T:Int)(tok:List Int):Bool:=tok.all fun t=>decide (0<=t)&&decide (t<T)
def eG(T N:Int)(R:List Ru)(tok:List Int):Int:=if aD T N R=false then 2 else if 30<tok.length then 1 else if dx T tok=false then 3 else 0
theorem QK{T N:Nat}{R:List Ru}(h:aD T N R=true):bM T N R:=by
 obtain⟨_,h1,_,_,h5⟩:=fV h
 have mem:∀r∈R,0<=r.1/\r.1<(N:Int)/\∀s∈r.2,0<=s.2/\s.2<if s.1 then (T:Int) else (N:Int):=fun r hr=>by
  obtain⟨q,hq,rfl⟩:=List.getElem_of_mem hr;have e:R.getD q (0,[])=R[q]:=by simp[List.getD,hq]
  rw[<-e];exact⟨(h5 q hq).1,(h5 q hq).2.1,(h5 q hq).2.2.2⟩
 refine⟨fun r hr=>⟨(mem r hr).1,(mem r hr).2.1⟩,fun r hr s hs hb=> ?_,fun r hr s hs hb=> ?_,h1⟩
 ·have:=(mem r hr).2.2 s hs;rw[hb]at this;simpa using this
 ·have:=(mem r hr).2.2 s hs;rw[hb]at this;simpa using this
end Go.Proofs.YtblkkhfdeaaidaaGreatDoor
namespace Go.Proofs.YtblkkhfdeaaidaaGreatDoor
open Go.RowKit
theorem QL{w:World}{T N:Int}{rv tv:Value}{tok:List Int}(hr:∃ra rl rc,rv= .slice ra rl rc)(ht:aP w w.heap.size tv tok)(gI:tok.length<=30):
 Calls Tryz.prog 88 #[.agg #[.int .i64 T,.int .i64 N,rv],tv] w fun e w'=>e= .returned (.bool (dx T tok))/\Below w.heap.size w w':=by
 obtain⟨ra,rl,rc,rfl⟩:=hr;obtain⟨ta,tc,dW⟩:=ht.1;subst dW;have HT1:Hid (aP (w.alloc (.cells #[.int .i64 T,.int .i64 N,.slice ra rl rc] 26)) w.heap.size (.slice ta tok.length tc) tok):=ht.below ((Below.refl _ _).alloc (Nat.le_refl _) _);have HB:Hid (Below w.heap.size w (w.alloc (.cells #[.int .i64 T,.int .i64 N,.slice ra rl rc] 26))):=(Below.refl _ _).alloc (Nat.le_refl _) _;clear ht
 go_enter Tryz.func88,Tryz.ntmps88
 go_wp2_with fail
 go_loopw [9] (fun s wr=> ∃i:Nat,s= .int .i64 i/\i<=tok.length/\dx T (tok.take i)=true/\wr=w.alloc (.cells #[.int .i64 T,.int .i64 N,.slice ra rl rc] 26)) (fun s _=>tok.length-(intOf s).toNat)
 case atStart=>exact⟨0,rfl,Nat.zero_le _,rfl,rfl⟩
 case round=>
  obtain⟨i,rfl,hi,hIn,rfl⟩:=hrel;have wT:Hid (dx T (tok.take i)=true):=hIn;clear hIn;by_cases hlt:i<tok.length
  ·obtain⟨tg,tO,QA,hte,_,d1⟩:=HT1.out.2 i hlt
   injection hte with h5 _ h6;subst h5;subst h6;obtain⟨x,hx⟩:∃x,tok.getD i 0=x:=⟨_,rfl⟩;have hxe:tok[i]=x:=by rw[<-hx];simp[List.getD,hlt]
   have QM:Hid (¬(0<=x/\x<T)->dx T tok=false):=fun h=>by
    unfold dx;rw[List.all_eq_false];exact⟨tok[i],List.getElem_mem hlt,by rw[hxe];simpa using fun h1=>by have:=fun h2=>h ⟨h1,h2⟩;omega⟩
   have Zw:Hid (0<=x/\x<T->dx T (tok.take (i+1))=true):=fun h=>by
    have:=wT.out;unfold dx at this⊢;rw[List.take_succ_eq_append_getElem hlt,List.all_append,this,hxe];simp[h.1,h.2]
   rw[hx]at d1;have i0:(0:Int)<=(i:Int):=Int.natCast_nonneg _;have i1:(i:Int)<(tok.length:Int):=by omega
   clear hx hxe;by_cases hx0:x<0
   ·have HE:Hid (dx T tok=false):=QM.out (by omega)
    go_wp2_with fail
    go_ret;exact⟨by rw[HE.out];rfl,HB.out⟩
   ·have hx1:decide (x<0)=false:=decide_eq_false hx0
    by_cases Zx:T<=x
    ·have HE:Hid (dx T tok=false):=QM.out (by omega)
     go_wp2_with fail
     go_ret;exact⟨by rw[HE.out];rfl,HB.out⟩
    ·have hx2:decide (T<=x)=false:=decide_eq_false Zx
     have HG:Hid (dx T (tok.take (i+1))=true):=Zw.out ⟨by omega,by omega⟩
     go_wp2_with fail
     go_roundw
     case rel=>exact⟨i+1,by go_num,by omega,HG.out,trivial⟩
     case measure=>simp[intOf];omega
  ·have HE:Hid (dx T tok=true):=by
    show dx T tok=true;have:=wT.out;rw[List.take_of_length_le (by omega)]at this;exact this
   go_wp2_with fail
   go_ret;exact⟨by rw[HE.out];rfl,HB.out⟩
theorem Zy{w:World}{B nm:Nat}{d:Ad}{v:CM}{st:aL}(h:aC w B d v st nm)(hn:nm<=1000000)(hE:(st.E (0,0)).length<=1000000){ta:Option Addr}{tl tc:Nat}(ht:d.tv= .slice ta tl tc):
 Calls Tryz.prog 90 #[.pointer (some ⟨d.ca,0,none⟩)] w fun r w'=>r= .returned (.bool (decide (tl∈st.E (0,0))))/\Below w.heap.size w w':=by
 have c7:=(h.cell (i:=7) rfl (by omega)).1;have c3:=(h.cell (i:=3) rfl (by omega)).1;rw[ht]at c3;have l1:=FU h.drew (s:=(0,0)) (by decide) (by decide) (by decide) hn;unfold gH at l1;simp only at l1;rw[show ((0:Nat):Int)=0 from rfl]at l1;have ct:=Kk (Kl h.drew (0,0)) (by simpa using hE) tl
 have hmem:decide ((tl:Int)∈(st.E (0,0)).map fun j:Nat=>(j:Int))=decide (tl∈st.E (0,0)):=by
  apply decide_eq_decide.2;rw[List.mem_map];constructor
  ·rintro ⟨x,hx,e⟩
   have:x=tl:=by omega
   rw[<-this];exact hx
  ·intro hx;exact⟨tl,hx,rfl⟩
 rw[hmem]at ct;obtain⟨z,hz⟩:∃z,decide (tl∈st.E (0,0))=z:=⟨_,rfl⟩;rw[hz]at ct⊢;obtain⟨ev,hev⟩:∃ev,v.VE (0,0)=ev:=⟨_,rfl⟩;rw[hev]at l1 ct;clear h hmem hz hev ht
 go_enter Tryz.func90,Tryz.ntmps90
 go_wp2_with fail
 refine sM 11 (by kernel_rfl) (by kernel_rfl) ?_;simp only[List.take_succ_cons,List.take_zero,List.drop_succ_cons,List.drop_zero]
 repeat still_step
 refine wpStill_nil ?_
 go_wp2_with (go_at_call 115;refine ct.mono ?_;rintro r w1 ⟨rfl,rfl⟩)
 go_ret;exact⟨rfl,(Below.refl _ _).drew⟩
theorem Zz{w:World}{T N:Int}{rv tv:Value}{R:List Ru}{tok:List Int}(hr:au w w.heap.size rv R)(ht:aP w w.heap.size tv tok)(hw:eG T N R tok≠0):
 Calls Tryz.prog 66 #[.agg #[.int .i64 T,.int .i64 N,rv],tv] w fun e w'=>e= .returned (.tuple #[.bool false,.int .i64 (eG T N R tok)])/\Below w.heap.size w w':=by
 obtain⟨ra,rc,aG⟩:=hr.1;obtain⟨ta,tc,dW⟩:=ht.1;subst aG;subst dW;have may:=lm (T:=T) (N:=N) (hr.boxed (.cells #[.int .i64 T,.int .i64 N,.slice ra R.length rc] 26));simp only[World.size_alloc]at may;have HB0:Hid (Below w.heap.size w (w.alloc (.cells #[.int .i64 T,.int .i64 N,.slice ra R.length rc] 26))):=(Below.refl _ _).alloc (Nat.le_refl _) _;have HT:Hid (aP w w.heap.size (.slice ta tok.length tc) tok):=ht;clear hr ht;cases hm:aD T N R with
 |false=>
  rw[hm]at may;have HE:Hid (eG T N R tok=2):=by show eG T N R tok=2;simp[eG,hm]
  rw[HE.out];clear hm hw HE
  go_enter Tryz.func66,Tryz.ntmps66
  go_wp2_with
   (go_at_call 49;refine may.mono ?_;rintro e w1 ⟨rfl,hB1⟩
    have HB1:Hid (Below w.heap.size w w1):=HB0.out.trans (hB1.mono (by simp))
    clear hB1)
  refine bodyPost_ret (v:= .tuple #[.bool false,.int .i64 2]) (by simp[results,Tryz.results66,go_sem]) rfl ⟨rfl,HB1.out⟩
 |true=>
  rw[hm]at may;by_cases gI:30<tok.length
  ·have HE:Hid (eG T N R tok=1):=by show eG T N R tok=1;simp[eG,hm,gI]
   rw[HE.out];have j0:(30:Int)<(tok.length:Int):=by omega
   clear hm hw HE
   go_enter Tryz.func66,Tryz.ntmps66
   go_wp2_with
    (go_at_call 49;refine may.mono ?_;rintro e w1 ⟨rfl,hB1⟩
     have HB1:Hid (Below w.heap.size w w1):=HB0.out.trans (hB1.mono (by simp))
     clear hB1)
   refine bodyPost_ret (v:= .tuple #[.bool false,.int .i64 1]) (by simp[results,Tryz.results66,go_sem]) rfl ⟨rfl,HB1.out⟩
  ·have hin:dx T tok=false:=by
    cases hin:dx T tok with
    |false=>rfl
    |true=>exact absurd (by simp[eG,hm,gI,hin]) hw
   have HE:Hid (eG T N R tok=3):=by show eG T N R tok=3;simp[eG,hm,gI,hin]
   rw[HE.out];have j0:decide ((30:Int)<(tok.length:Int))=false:=decide_eq_false (by omega);have wU:Hid (dx T tok=false):=hin;clear hm hw HE hin
   go_enter Tryz.func66,Tryz.ntmps66
   go_wp2_with
    (first
     |(go_at_call 49;refine may.mono ?_;rintro e w1 ⟨rfl,hB1⟩
       have HB1:Hid (Below w.heap.size w w1):=HB0.out.trans (hB1.mono (by simp));have b0:w1.cell? ⟨w.heap.size,0,none⟩=some (.int .i64 T):=(hB1.cell (by simp)).trans (by simp[go_sem]);have b1:w1.cell? ⟨w.heap.size,1,none⟩=some (.int .i64 N):=(hB1.cell (by simp)).trans (by simp[go_sem]);have b2:w1.cell? ⟨w.heap.size,2,none⟩=some (.slice ra R.length rc):=(hB1.cell (by simp)).trans (by simp[go_sem]);have kI:=QL (w:=w1) (T:=T) (N:=N) (rv:= .slice ra R.length rc) ⟨_,_,_,rfl⟩ ((HT.out.below HB1.out).mono HB1.out.size) (by omega);rw[wU.out]at kI
       clear hB1 may)
     |(go_at_call 88;refine kI.mono ?_;rintro e w2 ⟨rfl,hB2⟩
       have HB2:Hid (Below w.heap.size w w2):=HB1.out.trans (hB2.mono HB1.out.size)
       clear hB2))
   refine bodyPost_ret (v:= .tuple #[.bool false,.int .i64 3]) (by simp[results,Tryz.results66,go_sem]) rfl ⟨rfl,HB2.out⟩
theorem ZA{w:World}{T N:Nat}{rv tv:Value}{R:List Ru}{tok:List Int}(hr:au w w.heap.size rv R)(ht:aP w w.heap.size tv tok)(hm:aD T N R=true)(gI:tok.length<=30)(hin:dx T tok=true):
 Calls Tryz.prog 66 #[.agg #[.int .i64 T,.int .i64 N,rv],tv] w fun e w'=> ∃z,e= .returned (.tuple #[.bool z,.int .i64 0])/\(z=true↔lF R 0 tok)/\Below w.heap.size w w':=by
 obtain⟨ra,rc,aG⟩:=hr.1;obtain⟨ta,tc,dW⟩:=ht.1;subst aG;subst dW;have may:=lm (T:=T) (N:=N) (hr.boxed (.cells #[.int .i64 T,.int .i64 N,.slice ra R.length rc] 26));simp only[World.size_alloc]at may;rw[hm]at may;have HB0:Hid (Below w.heap.size w (w.alloc (.cells #[.int .i64 T,.int .i64 N,.slice ra R.length rc] 26))):=(Below.refl _ _).alloc (Nat.le_refl _) _;have HT:Hid (aP w w.heap.size (.slice ta tok.length tc) tok):=ht;have HR:Hid (au w w.heap.size (.slice ra R.length rc) R):=hr;have j0:decide ((30:Int)<(tok.length:Int))=false:=decide_eq_false (by omega);have wU:Hid (dx T tok=true):=hin;have HM:Hid (aD T N R=true):=hm;obtain⟨tl,htl⟩:∃tl,tok.length=tl:=⟨_,rfl⟩;have Dc:Hid (tok.length=tl):=htl;clear hm hin hr ht;rw[htl]at j0 gI⊢;clear htl
 go_enter Tryz.func66,Tryz.ntmps66
 go_wp2_with
  (first
   |(go_at_call 49;refine may.mono ?_;rintro e w1 ⟨rfl,hB1⟩
     have HB1:Hid (Below w.heap.size w w1):=HB0.out.trans (hB1.mono (by simp));have b0:w1.cell? ⟨w.heap.size,0,none⟩=some (.int .i64 T):=(hB1.cell (by simp)).trans (by simp[go_sem]);have b1:w1.cell? ⟨w.heap.size,1,none⟩=some (.int .i64 N):=(hB1.cell (by simp)).trans (by simp[go_sem]);have b2:w1.cell? ⟨w.heap.size,2,none⟩=some (.slice ra R.length rc):=(hB1.cell (by simp)).trans (by simp[go_sem]);have hs1:w.heap.size+1<=w1.heap.size:=by have:=hB1.size;simpa using this
     have kI:=QL (w:=w1) (T:=T) (N:=N) (rv:= .slice ra R.length rc) ⟨_,_,_,rfl⟩ ((HT.out.below HB1.out).mono HB1.out.size) (by rw[Dc.out];exact gI);rw[wU.out,Dc.out]at kI
     clear hB1 may)
   |(go_at_call 88;refine kI.mono ?_;rintro e w2 ⟨rfl,hB2⟩
     have HB2:Hid (Below w.heap.size w w2):=HB1.out.trans (hB2.mono HB1.out.size);have d0:=(hB2.cell (p:=⟨w.heap.size,0,none⟩) (by simp only;omega)).trans b0;have d1:=(hB2.cell (p:=⟨w.heap.size,1,none⟩) (by simp only;omega)).trans b1;have d2:=(hB2.cell (p:=⟨w.heap.size,2,none⟩) (by simp only;omega)).trans b2;have co:=Zv (w:=w2) (T:=T) (N:=N) ((HR.out.below HB2.out).mono HB2.out.size) ((HT.out.below HB2.out).mono HB2.out.size) HM.out (by rw[Dc.out];exact gI);rw[Dc.out]at co
     clear hB2 kI)
   |(go_at_call 89;refine co.mono ?_;rintro e w3 ⟨d,v,st,nm,rfl,hdt,hC,hnm,hE,hD,hB3⟩
     have HB3:Hid (Below w.heap.size w w3):=HB2.out.trans (hB3.mono HB2.out.size);have ha:=Zy hC hnm hE hdt;obtain⟨z,hz⟩:∃z,decide (tl∈st.E (0,0))=z:=⟨_,rfl⟩
     have HZ:Hid (z=true↔lF R 0 tok):=by
      show z=true↔lF R 0 tok;rw[<-hz,decide_eq_true_iff];exact hD
     rw[hz]at ha
     clear hB3 hC hdt hD hz co)
   |(go_at_call 90;refine ha.mono ?_;rintro e w4 ⟨rfl,hB4⟩
     have gJ:Hid (Below w.heap.size w w4):=HB3.out.trans (hB4.mono HB3.out.size)
     clear hB4))
 refine bodyPost_ret (v:= .tuple #[.bool z,.int .i64 0]) (by simp[results,Tryz.results66,go_sem]) rfl ⟨z,rfl,HZ.out,gJ.out⟩
def kL(w:World)(v:Value)(X:List Bool):Prop:=
 (∃a c,v= .slice a X.length c)/\∀i,i<X.length->∃g o c,v= .slice (some ⟨g,o,none⟩) X.length c/\w.cell? ⟨g,o+i,none⟩=some (.bool (X.getD i false))
def oZ(w:World)(v:Value)(X:List (List Bool)):Prop:=
 (∃a c,v= .slice a X.length c)/\∀i,i<X.length->∃g o c rv,v= .slice (some ⟨g,o,none⟩) X.length c/\w.cell? ⟨g,o+i,none⟩=some rv/\kL w rv (X.getD i [])
def bG(w:World)(v:Value)(l:List Sy):Prop:=
 (∃a c,v= .slice a l.length c/\l.length<=c)/\∀j,j<l.length->∃b o c,v= .slice (some ⟨b,o,none⟩) l.length c/\w.cell? ⟨b,o+j*2,none⟩=some (.bool (l.getD j (false,0)).1)/\
  w.cell? ⟨b,o+j*2+1,none⟩=some (.int .i64 (l.getD j (false,0)).2)
theorem kL.same{w w':World}{v:Value}{X:List Bool}(h:kL w v X)(hw:∀b o,b<w.heap.size->w'.cell? ⟨b,o,none⟩=w.cell? ⟨b,o,none⟩):kL w' v X:=
 ⟨h.1,fun i hi=>let ⟨g,o,c,h1,h2⟩:=h.2 i hi;⟨g,o,c,h1,(hw g _ (World.block_lt_of_cell? w _ h2)).trans h2⟩⟩
theorem oZ.same{w w':World}{v:Value}{X:List (List Bool)}(h:oZ w v X)(hw:∀b o,b<w.heap.size->w'.cell? ⟨b,o,none⟩=w.cell? ⟨b,o,none⟩):oZ w' v X:=
 ⟨h.1,fun i hi=>let ⟨g,o,c,rv,h1,h2,h3⟩:=h.2 i hi;⟨g,o,c,rv,h1,(hw g _ (World.block_lt_of_cell? w _ h2)).trans h2,h3.same hw⟩⟩
theorem bG.same{w w':World}{v:Value}{l:List Sy}(h:bG w v l)(hw:∀b o,b<w.heap.size->w'.cell? ⟨b,o,none⟩=w.cell? ⟨b,o,none⟩):bG w' v l:=
 ⟨h.1,fun j hj=>let ⟨b,o,c,h1,h2,h3⟩:=h.2 j hj;⟨b,o,c,h1,(hw b _ (World.block_lt_of_cell? w _ h2)).trans h2,(hw b _ (World.block_lt_of_cell? w _ h3)).trans h3⟩⟩
theorem au.jV{w:World}{B:Nat}{rv:Value}{R:List Ru}(h:au w B rv R){q:Nat}(hq:q<R.length):∃b o rc qa qc,rv= .slice (some ⟨b,o,none⟩) R.length rc/\b<B/\
 w.cell? ⟨b,o+q*2,none⟩=some (.int .i64 (R.getD q (0,[])).1)/\w.cell? ⟨b,o+q*2+1,none⟩=some (.slice qa (R.getD q (0,[])).2.length qc)/\bG w (.slice qa (R.getD q (0,[])).2.length qc) (R.getD q (0,[])).2:=by
 obtain⟨b,o,rc,qa,qc,h1,h2,h3,h4,h6,h5⟩:=h.2 q hq;refine⟨b,o,rc,qa,qc,h1,h2,h3,by rw[Nat.add_assoc];exact h4,⟨_,_,rfl,h6⟩,fun j hj=> ?_⟩;obtain⟨b',o',rfl,_,k1,k2⟩:=h5 j hj;exact⟨b',o',qc,rfl,k1,by rw[Nat.add_assoc];exact k2⟩
theorem iH{w w':World}(h:Below w.heap.size w w'):∀b o,b<w.heap.size->w'.cell? ⟨b,o,none⟩=w.cell? ⟨b,o,none⟩:=fun _ _ hb=>h.cell hb
def wV(X:List Bool)(l:List Sy):Bool:=l.all fun s=> !s.1&&X.getD s.2.toNat false
def Ky(F:List (List Bool))(t:Nat)(s:Sy):Bool:=if s.1 then decide (s.2=(t:Int)) else (F.getD s.2.toNat []).getD t false
def wW(X:List Bool)(F:List (List Bool))(t:Nat)(l:List Sy):Bool:=(List.range l.length).any fun i=>wV X (l.take i)&&Ky F t (l.getD i (false,0))
abbrev It:=Nat×Nat
def aH(R:List Ru)(r:Nat):List Sy:=if r=R.length then [(false,0)] else (R.getD r (0,[])).2
def iI(w:World)(lim:Nat)(v:Value)(L:List It):Prop:=
 (∃a c,v= .slice a L.length c)/\∀k,k<L.length->∃b o c,v= .slice (some ⟨b,o,none⟩) L.length c/\b<lim/\
  w.cell? ⟨b,o+k*2,none⟩=some (.int .i64 (L.getD k (0,0)).1)/\w.cell? ⟨b,o+(k*2+1),none⟩=some (.int .i64 (L.getD k (0,0)).2)
theorem iI.below{B:Nat}{w w':World}{v:Value}{L:List It}(h:iI w B v L)(hb:Below B w w'):iI w' B v L:=
 ⟨h.1,fun k hk=>let ⟨b,o,c,h1,h2,h3,h4⟩:=h.2 k hk;⟨b,o,c,h1,h2,(hb.cell h2).trans h3,(hb.cell h2).trans h4⟩⟩
theorem iI.mono{B B':Nat}{w:World}{v:Value}{L:List It}(h:iI w B v L)(hB:B<=B'):iI w B' v L:=
 ⟨h.1,fun k hk=>let ⟨b,o,c,h1,h2,h3,h4⟩:=h.2 k hk;⟨b,o,c,h1,by omega,h3,h4⟩⟩
structure iC(w:World)(lim ab:Nat)(T N:Nat)(rv:Value)(R:List Ru):Prop where
 t:w.cell? ⟨ab,0,none⟩=some (.int .i64 T)
 n:w.cell? ⟨ab,1,none⟩=some (.int .i64 N)
 r:w.cell? ⟨ab,2,none⟩=some rv
 rules:au w lim rv R
 le:lim<=w.heap.size
 lt:ab<w.heap.size
theorem iC.below{w w':World}{lim ab T N B:Nat}{rv:Value}{R:List Ru}(h:iC w lim ab T N rv R)(hb:Below B w w')(hl:lim<=B)(ha:ab<B):iC w' lim ab T N rv R:=
 ⟨(hb.cell ha).trans h.t,(hb.cell ha).trans h.n,(hb.cell ha).trans h.r,h.rules.below (hb.mono hl),Nat.le_trans h.le hb.size,Nat.lt_of_lt_of_le h.lt hb.size⟩
def dX(T:Nat)(s:Sy):Int:=if s.1 then s.2 else (T:Int)+s.2
end Go.Proofs.YtblkkhfdeaaidaaGreatDoor
namespace Go.Proofs.YtblkkhfdeaaidaaGreatDoor
inductive Cl(R:List Ru)(S:It->Prop):It->Prop
 |base {i:It} (h:S i):Cl R S i
 |step {r d n:Nat} {m:Int} (h:Cl R S (r,d)) (h1:(aH R r)[d]?=some (false,m)) (h2:n<R.length) (h3:(R.getD n (0,[])).1=m):Cl R S (n,0)
section
variable{α:Type}[DecidableEq α]
theorem QN{A B:List α}(hA:A.Nodup)(h:∀x∈A,x∈B):A.length<=B.length:=by
 induction A generalizing B with
 |nil=>simp
 |cons a A ih=>
  rw[List.nodup_cons]at hA;have ha:=h a (by simp);have:=ih hA.2 (B:=B.erase a) fun x hx=>(List.mem_erase_of_ne (fun e=>hA.1 (by rw[<-e];exact hx))).2 (h x (by simp[hx]));rw[List.length_erase_of_mem ha]at this;have:=List.length_pos_of_mem ha;simp only[List.length_cons];omega
end
section
variable{R:List Ru}{l O:List It}{k n:Nat}
end
end Go.Proofs.YtblkkhfdeaaidaaGreatDoor
namespace Go.Proofs.YtblkkhfdeaaidaaGreatDoor
open Classical
abbrev aI:=It->Prop
def iO(T:Nat)(R:List Ru)(i:It)(x:Nat):Prop:=∃s,(aH R i.1)[i.2]?=some s/\dX T s=(x:Int)
def Ar(T:Nat)(R:List Ru)(S:aI)(x:Nat):aI:=fun j=> ∃i,S i/\iO T R i x/\j=(i.1,i.2+1)
def nT(T:Nat)(R:List Ru)(S:aI)(x:Nat):aI:=Cl R (Ar T R S x)
def bC:aI:=fun _=>False
noncomputable def visit(T:Nat)(R:List Ru)(L:List aI)(k x:Nat):Int×List aI:=
 if ∃i,L.getD k bC i/\iO T R i x then
  if h:∃n,n<L.length/\L.getD n bC=nT T R (L.getD k bC) x then (((Classical.choose h:Nat):Int),L) else ((L.length:Int),L++[nT T R (L.getD k bC) x])
 else (-1,L)
noncomputable def jm(T:Nat)(R:List Ru)(k x:Nat)(p:List Int×List aI):List Int×List aI:=(p.1++[(visit T R p.2 k x).1],(visit T R p.2 k x).2)
noncomputable def bH(T:Nat)(R:List Ru)(k x:Nat)(L:List aI):List Int×List aI:=aK x (jm T R k) ([],L)
noncomputable def jK(T N:Nat)(R:List Ru)(k:Nat)(p:List (List Int)×List aI):List (List Int)×List aI:=(p.1++[(bH T R k (T+N) p.2).1],(bH T R k (T+N) p.2).2)
noncomputable def af(T N:Nat)(R:List Ru)(k:Nat):List (List Int)×List aI:=aK k (jK T N R) ([],[Cl R fun i=>i=(R.length,0)])
def QO(L:List aI):Prop:=∀i j,i<L.length->j<L.length->L.getD i bC=L.getD j bC->i=j
section
variable{T N:Nat}{R:List Ru}{L:List aI}{k x:Nat}
theorem Kz(h:¬ ∃i,L.getD k bC i/\iO T R i x):visit T R L k x=(-1,L):=by unfold visit;rw[if_neg h]
theorem ZB(hd:QO L)(h:∃i,L.getD k bC i/\iO T R i x){n:Nat}(hn:n<L.length)(he:L.getD n bC=nT T R (L.getD k bC) x):visit T R L k x=((n:Int),L):=by
 unfold visit;have h2:∃n,n<L.length/\L.getD n bC=nT T R (L.getD k bC) x:=⟨n,hn,he⟩;rw[if_pos h,dif_pos h2];have:=Classical.choose_spec h2;have e:=hd _ _ this.1 hn (this.2.trans he.symm);rw[e]
theorem ZE(h:∃i,L.getD k bC i/\iO T R i x)(hno:∀n,n<L.length->L.getD n bC≠nT T R (L.getD k bC) x):visit T R L k x=((L.length:Int),L++[nT T R (L.getD k bC) x]):=by
 unfold visit;rw[if_pos h,dif_neg (fun⟨n,hn,he⟩=>hno n hn he)]
theorem ZF:L.length<=(visit T R L k x).2.length:=by
 unfold visit;split
 ·split
  ·exact Nat.le_refl _
  ·simp
 ·exact Nat.le_refl _
end
structure tK(O:List It)(S:aI):Prop where
 qA:O.Nodup
 mem:∀i,i∈O↔S i
theorem tK.eq{O:List It}{S S':aI}(h:tK O S)(h':tK O S'):S=S':=funext fun i=>propext ((h.mem i).symm.trans (h'.mem i))
noncomputable def bY(T:Nat)(R:List Ru)(O:List It)(x j:Nat):List It:=((O.take j).filter fun i=>decide (iO T R i x)).map fun i=>(i.1,i.2+1)
theorem ZG{T:Nat}{R:List Ru}{O:List It}{x j:Nat}(h:O.Nodup):(bY T R O x j).Nodup:=by
 unfold bY;have h1:((O.take j).filter fun i=>decide (iO T R i x)).Nodup:=(h.sublist (List.take_sublist _ _)).sublist List.filter_sublist;generalize ((O.take j).filter fun i=>decide (iO T R i x))=A at h1
 induction A with
 |nil=>simp
 |cons a A ih=>
  rw[List.nodup_cons]at h1;rw[List.map_cons,List.nodup_cons];refine⟨fun hm=> ?_,ih h1.2⟩;obtain⟨b,hb,e⟩:=List.mem_map.1 hm;simp only[Prod.mk.injEq,Nat.add_right_cancel_iff]at e;exact h1.1 (by rw[show a=b from Prod.ext e.1.symm e.2.symm];exact hb)
theorem KA{T:Nat}{R:List Ru}{O:List It}{x:Nat}{S:aI}(h:tK O S):∀i,i∈bY T R O x O.length↔Ar T R S x i:=fun i=>by
 unfold bY Ar;rw[List.take_length];constructor
 ·intro hi
  obtain⟨b,hb,rfl⟩:=List.mem_map.1 hi;rw[List.mem_filter]at hb;exact⟨b,(h.mem b).1 hb.1,by simpa using hb.2,rfl⟩
 ·rintro ⟨b,h1,h2,rfl⟩
  exact List.mem_map.2 ⟨b,List.mem_filter.2 ⟨(h.mem b).2 h1,by simpa using h2⟩,rfl⟩
theorem QS{T:Nat}{R:List Ru}{O:List It}{x j:Nat}(hj:j<O.length):bY T R O x (j+1)=bY T R O x j++(if iO T R (O.getD j (0,0)) x then [((O.getD j (0,0)).1,(O.getD j (0,0)).2+1)] else []):=by
 unfold bY;have e:O.getD j (0,0)=O[j]:=by simp[List.getD,hj]
 rw[List.take_succ_eq_append_getElem hj,List.filter_append,List.map_append,e]
 congr 1
 by_cases h:iO T R O[j] x
 ·simp[h]
 ·simp[h]
theorem QT{T:Nat}{R:List Ru}{O:List It}{x:Nat}{S:aI}(h:tK O S):bY T R O x O.length=[]↔¬ ∃i,S i/\iO T R i x:=by
 constructor
 ·rintro e ⟨i,h1,h2⟩
  have:(i.1,i.2+1)∈bY T R O x O.length:=(KA h _).2 ⟨i,h1,h2,rfl⟩;rw[e]at this;cases this
 ·intro hn
  refine List.eq_nil_iff_forall_not_mem.2 fun i hi=> ?_;obtain⟨b,h1,h2,_⟩:=(KA h i).1 hi;exact hn ⟨b,h1,h2⟩
theorem ZH{T:Nat}{R:List Ru}{O C:List It}{x:Nat}{S:aI}(h:tK O S)(hn:C.Nodup)(hC:∀i,i∈C↔Cl R (· ∈bY T R O x O.length) i):tK C (nT T R S x):=by
 refine⟨hn,fun i=>(hC i).trans ?_⟩;have e:(fun i=>i∈bY T R O x O.length)=Ar T R S x:=funext fun i=>propext (KA h i);unfold nT;rw[<-e]
def mH(R:List Ru)(i:It):Prop:=i.1<=R.length/\i.2<=(aH R i.1).length
def F6(R:List Ru):List It:=(List.range (R.length+1)).flatMap fun r=>(List.range ((aH R r).length+1)).map fun d=>(r,d)
theorem ZI{R:List Ru}{i:It}(h:mH R i):i∈F6 R:=by
 unfold F6;rw[List.mem_flatMap];exact⟨i.1,List.mem_range.2 (by have:=h.1;omega),List.mem_map.2 ⟨i.2,List.mem_range.2 (by have:=h.2;omega),rfl⟩⟩
theorem ZJ{R:List Ru}(h8:∀r,r<=R.length->(aH R r).length<=8):(F6 R).length<=(R.length+1)*9:=by
 unfold F6
 have:∀n,n<=R.length+1->((List.range n).flatMap fun r=>(List.range ((aH R r).length+1)).map fun d=>((r,d):It)).length<=n*9:=by
  intro n
  induction n with
  |zero=>simp
  |succ n ih=>
   intro hn;rw[List.range_succ,List.flatMap_append,List.length_append];have h1:=ih (by omega);have h2:=h8 n (by omega);simp only[List.flatMap_cons,List.flatMap_nil,List.append_nil,List.length_map,List.length_range];omega
 exact this _ (Nat.le_refl _)
theorem F7{R:List Ru}(h8:∀r,r<=R.length->(aH R r).length<=8){O:List It}(hn:O.Nodup)(ho:∀i∈O,mH R i):O.length<=(R.length+1)*9:=
 Nat.le_trans (QN hn fun i hi=>ZI (ho i hi)) (ZJ h8)
theorem KC{R:List Ru}{S:aI}(hS:∀i,S i->mH R i){i:It}(h:Cl R S i):mH R i:=by
 induction h with
 |base hb=>exact hS _ hb
 |step _ _ h2 _ _=>exact⟨Nat.le_of_lt h2,Nat.zero_le _⟩
theorem ZK{T:Nat}{R:List Ru}{S:aI}{x:Nat}(hS:∀i,S i->mH R i):∀i,Ar T R S x i->mH R i:=by
 rintro i ⟨b,h1,⟨s,h2,_⟩,rfl⟩;have:=(List.getElem?_eq_some_iff.1 h2).1;exact⟨(hS b h1).1,by simp only;omega⟩
section
variable{T N:Nat}{R:List Ru}{OL:List (List It)}{Ls:List aI}{k x:Nat}
theorem QU{α:Type}{L:List α}{y d:α}{i:Nat}(hi:i<L.length):(L++[y]).getD i d=L.getD i d:=by simp[List.getD,List.getElem?_append_left hi]
theorem QV{α:Type}{L:List α}{y d:α}{i:Nat}(hi:i=L.length):(L++[y]).getD i d=y:=by subst hi;simp[List.getD]
theorem QW{O:List It}{j:Nat}:(bY T R O x j).length<=O.length:=by
 unfold bY;rw[List.length_map];refine Nat.le_trans (List.length_filter_le _ _) ?_;rw[List.length_take];omega
theorem ZL{O:List It}{j r d:Nat}(hj:j<O.length)(he:O.getD j (0,0)=(r,d))(h:iO T R (r,d) x):bY T R O x (j+1)=bY T R O x j++[(r,d+1)]:=by
 rw[QS hj,he,if_pos h]
theorem QX{O:List It}{j r d:Nat}(hj:j<O.length)(he:O.getD j (0,0)=(r,d))(h:¬iO T R (r,d) x):bY T R O x (j+1)=bY T R O x j:=by
 rw[QS hj,he,if_neg h,List.append_nil]
theorem QY(L:List aI)(k x:Nat):∃E,(visit T R L k x).2=L++E:=by
 unfold visit;split
 ·split
  ·exact⟨[],by simp⟩
  ·exact⟨_,rfl⟩
 ·exact⟨[],by simp⟩
theorem KD(k x:Nat)(L:List aI):(bH T R k x L).1.length=x:=by
 induction x with
 |zero=>rfl
 |succ x ih=>
  have e:bH T R k (x+1) L=jm T R k x (bH T R k x L):=rfl;rw[e,jm];simp[ih]
theorem F8(k x:Nat)(L:List aI):∃E,(bH T R k x L).2=L++E:=by
 induction x with
 |zero=>exact⟨[],by simp[bH,aK]⟩
 |succ x ih=>
  obtain⟨E,hE⟩:=ih;have e:bH T R k (x+1) L=jm T R k x (bH T R k x L):=rfl;obtain⟨F,hF⟩:=QY (T:=T) (R:=R) (bH T R k x L).2 k x;exact⟨E++F,by rw[e,jm];simp only;rw[hF,hE,List.append_assoc]⟩
theorem ZO{k x y:Nat}{L:List aI}(h:x<=y):(bH T R k x L).2.length<=(bH T R k y L).2.length:=by
 induction h with
 |refl=>exact Nat.le_refl _
 |step _ ih=>
  rename_i m _;have e:bH T R k (m+1) L=jm T R k m (bH T R k m L):=rfl;rw[e,jm];exact Nat.le_trans ih ZF
theorem QZ(k:Nat):(af T N R k).1.length=k:=by
 induction k with
 |zero=>rfl
 |succ k ih=>
  have e:af T N R (k+1)=jK T N R k (af T N R k):=rfl;rw[e,jK];simp[ih]
theorem KE{j k:Nat}(h:j<=k):(af T N R j).2.length<=(af T N R k).2.length:=by
 induction h with
 |refl=>exact Nat.le_refl _
 |step _ ih=>
  rename_i m _;have e:af T N R (m+1)=jK T N R m (af T N R m):=rfl;obtain⟨E,hE⟩:=F8 (T:=T) (R:=R) m (T+N) (af T N R m).2;rw[e,jK];simp only;rw[hE,List.length_append];omega
def Whole(T N:Nat)(R:List Ru)(K:Nat):Prop:=(af T N R K).2.length=K
def More(T N:Nat)(R:List Ru)(m:Nat):Prop:=∃k x,k<(af T N R k).2.length/\x<=T+N/\m<(bH T R k x (af T N R k).2).2.length
theorem yN{K m:Nat}(h:Whole T N R K)(hK:K<=m):¬More T N R m:=by
 rintro ⟨k,x,h1,h2,h3⟩;by_cases hk:k<K
 ·have e:af T N R (k+1)=jK T N R k (af T N R k):=rfl
  have l1:=ZO (T:=T) (R:=R) (k:=k) (L:=(af T N R k).2) h2;have l2:(bH T R k (T+N) (af T N R k).2).2.length=(af T N R (k+1)).2.length:=by rw[e,jK]
  have l3:=KE (T:=T) (N:=N) (R:=R) (show k+1<=K by omega);unfold Whole at h;omega
 ·
  have hfix:∀j,K<=j->(af T N R j).2.length=K:=by
   intro j hj
   induction hj with
   |refl=>exact h
   |step hj ih=>
    rename_i j;have e:af T N R (j+1)=jK T N R j (af T N R j):=rfl
    have hno:∀y L,L.length=K->(bH T R j y L).2=L:=by
     intro y L hL
     induction y with
     |zero=>rfl
     |succ y ihy=>
      have e2:bH T R j (y+1) L=jm T R j y (bH T R j y L):=rfl;rw[e2,jm];simp only;rw[ihy,Kz];rintro ⟨i,hi,_⟩;rw[List.getD,List.getElem?_eq_none (by have hj':K<=j:=hj;omega)]at hi;exact hi
    rw[e,jK];simp only;rw[hno _ _ ih];exact ih
  have:=hfix k (by omega);omega
end
section
variable{T N:Nat}{R:List Ru}
structure wX(T:Nat)(R:List Ru)(Ls:List aI)(k x:Nat)(z:Int):Prop where
 some:(∃i,Ls.getD k bC i/\iO T R i x)->∃n:Nat,z=n/\n<Ls.length/\Ls.getD n bC=nT T R (Ls.getD k bC) x
 none:(¬ ∃i,Ls.getD k bC i/\iO T R i x)->z= -1
theorem Di{L E:List aI}{n:Nat}(h:n<L.length):(L++E).getD n bC=L.getD n bC:=by simp[List.getD,List.getElem?_append_left h]
theorem wX.more{Ls:List aI}{k x:Nat}{z:Int}(h:wX T R Ls k x z)(hk:k<Ls.length)(E:List aI):wX T R (Ls++E) k x z:=by
 refine⟨fun hx=> ?_,fun hx=> ?_⟩
 ·rw[Di hk]at hx⊢
  obtain⟨n,h1,h2,h3⟩:=h.some hx;exact⟨n,h1,by simp;omega,by rw[Di h2];exact h3⟩
 ·rw[Di hk]at hx
  exact h.none hx
theorem ZP{L:List aI}{k x:Nat}(hk:k<L.length):wX T R (visit T R L k x).2 k x (visit T R L k x).1:=by
 unfold visit;by_cases h:∃i,L.getD k bC i/\iO T R i x
 ·rw[if_pos h]
  by_cases h2:∃n,n<L.length/\L.getD n bC=nT T R (L.getD k bC) x
  ·rw[dif_pos h2]
   exact⟨fun _=>⟨_,rfl,(Classical.choose_spec h2).1,(Classical.choose_spec h2).2⟩,fun hn=>absurd h hn⟩
  ·rw[dif_neg h2]
   refine⟨fun _=>⟨L.length,rfl,by simp,?_⟩,fun hn=> ?_⟩
   ·rw[Di hk];simp[List.getD]
   ·rw[Di hk]at hn;exact absurd h hn
 ·rw[if_neg h]
  exact⟨fun hh=>absurd hh h,fun _=>rfl⟩
theorem ZQ{L:List aI}{k:Nat}(hk:k<L.length)(x:Nat):∀y,y<x->wX T R (bH T R k x L).2 k y ((bH T R k x L).1.getD y 0):=by
 induction x with
 |zero=>intro y hy;exact absurd hy (Nat.not_lt_zero _)
 |succ x ih=>
  intro y hy;have e:bH T R k (x+1) L=jm T R k x (bH T R k x L):=rfl;obtain⟨E,hE⟩:=F8 (T:=T) (R:=R) k x L;have hk':k<(bH T R k x L).2.length:=by rw[hE,List.length_append];omega
  have hl:=KD (T:=T) (R:=R) k x L;rw[e,jm];simp only;rcases Nat.lt_succ_iff_lt_or_eq.1 hy with hy|rfl
  ·obtain⟨F,hF⟩:=QY (T:=T) (R:=R) (bH T R k x L).2 k x
   rw[hF];have:=(ih y hy).more hk' F;have e2:((bH T R k x L).1++[(visit T R (bH T R k x L).2 k x).1]).getD y 0=(bH T R k x L).1.getD y 0:=by simp[List.getD,List.getElem?_append_left (show y<(bH T R k x L).1.length by omega)]
   rw[e2];exact this
  ·have e2:((bH T R k y L).1++[(visit T R (bH T R k y L).2 k y).1]).getD y 0=(visit T R (bH T R k y L).2 k y).1:=by
    rw[List.getD,List.getElem?_append_right (by omega),hl];simp
   rw[e2];exact ZP hk'
theorem KF(j k:Nat)(h:j<=k):∃E,(af T N R k).2=(af T N R j).2++E:=by
 induction h with
 |refl=>exact⟨[],by simp⟩
 |step _ ih=>
  rename_i m _;obtain⟨E,hE⟩:=ih;obtain⟨F,hF⟩:=F8 (T:=T) (R:=R) m (T+N) (af T N R m).2;have e:af T N R (m+1)=jK T N R m (af T N R m):=rfl;exact⟨E++F,by rw[e,jK];simp only;rw[hF,hE,List.append_assoc]⟩
theorem KG{K:Nat}(hK:∀k,k<K->k<(af T N R k).2.length):∀k,k<K->∀x,x<T+N->((af T N R K).1.getD k []).length=T+N/\wX T R (af T N R K).2 k x (((af T N R K).1.getD k []).getD x 0):=by
 induction K with
 |zero=>intro k hk;exact absurd hk (Nat.not_lt_zero _)
 |succ K ih=>
  intro k hk x hx;have e:af T N R (K+1)=jK T N R K (af T N R K):=rfl;have hl:=QZ (T:=T) (N:=N) (R:=R) K;obtain⟨F,hF⟩:=F8 (T:=T) (R:=R) K (T+N) (af T N R K).2;rw[e,jK];simp only;rcases Nat.lt_succ_iff_lt_or_eq.1 hk with hk|rfl
  ·obtain⟨h1,h2⟩:=ih (fun k hk=>hK k (by omega)) k hk x hx
   have e2:((af T N R K).1++[(bH T R K (T+N) (af T N R K).2).1]).getD k []=(af T N R K).1.getD k []:=by simp[List.getD,List.getElem?_append_left (show k<(af T N R K).1.length by omega)]
   have hkl:k<(af T N R K).2.length:=Nat.lt_of_lt_of_le (hK k (by omega)) (KE (by omega));rw[e2,hF];exact⟨h1,h2.more hkl F⟩
  ·have e2:((af T N R k).1++[(bH T R k (T+N) (af T N R k).2).1]).getD k []=(bH T R k (T+N) (af T N R k).2).1:=by
    rw[List.getD,List.getElem?_append_right (by omega),hl];simp
   rw[e2];exact⟨KD _ _ _,ZQ (hK k (by omega)) (T+N) x hx⟩
theorem Dj{K:Nat}(h:Whole T N R K):∀k,k<K->k<(af T N R k).2.length:=by
 intro k hk;refine Classical.byContradiction fun hn=> ?_
 have hfix:∀j,k<=j->(af T N R j).2.length<=k:=by
  intro j hj
  induction hj with
  |refl=>omega
  |step hj ih=>
   rename_i j;have e:af T N R (j+1)=jK T N R j (af T N R j):=rfl
   have hno:∀y L,L.length<=k->(bH T R j y L).2=L:=by
    intro y L hL
    induction y with
    |zero=>rfl
    |succ y ihy=>
     have e2:bH T R j (y+1) L=jm T R j y (bH T R j y L):=rfl;rw[e2,jm];simp only;rw[ihy,Kz];rintro ⟨i,hi,_⟩;rw[List.getD,List.getElem?_eq_none (by have hj':k<=j:=hj;omega)]at hi;exact hi
   rw[e,jK];simp only;rw[hno _ _ ih];exact ih
 have:=hfix K (by omega);unfold Whole at h;omega
def wY(R:List Ru)(S:aI):Prop:=∃S0,S=Cl R S0
theorem ZR{L:List aI}{k x:Nat}(h:∀S∈L,wY R S):∀S∈(visit T R L k x).2,wY R S:=by
 unfold visit;split
 ·split
  ·exact h
  ·intro S hS
   rcases List.mem_append.1 hS with hS|hS
   ·exact h S hS
   ·simp only[List.mem_singleton]at hS
    exact⟨_,hS⟩
 ·exact h
theorem Q0(k:Nat):∀S∈(af T N R k).2,wY R S:=by
 induction k with
 |zero=>intro S hS;simp only[af,aK,List.mem_singleton]at hS;exact⟨_,hS⟩
 |succ k ih=>
  have e:af T N R (k+1)=jK T N R k (af T N R k):=rfl;rw[e,jK];simp only
  have:∀x L,(∀S∈L,wY R S)->∀S∈(bH T R k x L).2,wY R S:=by
   intro x L hL
   induction x with
   |zero=>exact hL
   |succ x ZU=>
    have e:bH T R k (x+1) L=jm T R k x (bH T R k x L):=rfl;rw[e,jm];exact ZR ZU
  exact this _ _ ih
theorem ZV{S:aI}(h:wY R S){i:It}(hi:S i){m:Int}(h1:(aH R i.1)[i.2]?=some (false,m)){n:Nat}(h2:n<R.length)(h3:(R.getD n (0,[])).1=m):S (n,0):=by
 obtain⟨S0,rfl⟩:=h;exact Cl.step (r:=i.1) (d:=i.2) hi h1 h2 h3
theorem Q5{S:aI}{i:It}(hi:S i){s:Sy}{x:Nat}(h1:(aH R i.1)[i.2]?=some s)(h2:dX T s=x):nT T R S x (i.1,i.2+1):=Cl.base ⟨i,hi,⟨s,h1,h2⟩,rfl⟩
end
inductive qB(T:Nat)(R:List Ru)(qC:List Sy->Nat->Bool)(kM:List Sy->Bool)(NL:List (List Int))(Ls:List aI):Nat->It->Nat->Prop
 |start:qB T R qC kM NL Ls 0 (R.length,0) T
 |on {k:Nat} {i:It} {t:Nat} {s:Sy} {n:Nat} (h:qB T R qC kM NL Ls k i t) (h1:(aH R i.1)[i.2]?=some s) (h2:(NL.getD k []).getD (dX T s).toNat 0=(n:Int)):qB T R qC kM NL Ls n (i.1,i.2+1) t
 |begins {k:Nat} {i:It} {t:Nat} {m:Int} {n:Nat} (hk:k<Ls.length) (h:Ls.getD k bC i) (h1:(aH R i.1)[i.2]?=some (false,m)) (h2:n<R.length) (h3:(R.getD n (0,[])).1=m) (ht:t<=T) (h4:qC ((aH R i.1).drop (i.2+1)) t=true):qB T R qC kM NL Ls k (n,0) t
 |nothing {k:Nat} {i:It} {t:Nat} {m:Int} {n:Nat} (h:qB T R qC kM NL Ls k i t) (h1:(aH R i.1)[i.2]?=some (false,m)) (h2:n<R.length) (h3:(R.getD n (0,[])).1=m) (h4:kM ((aH R i.1).drop (i.2+1))=true):qB T R qC kM NL Ls k (n,0) t
end Go.Proofs.YtblkkhfdeaaidaaGreatDoor
namespace Go.Proofs.YtblkkhfdeaaidaaGreatDoor
open Go.RowKit
def wZ(Nu:List Bool)(Fi:List (List Bool))(T t:Nat):List Sy->Bool×Bool
 | []=>(false,true)
 |(true,v)::_=>(decide (v=(t:Int)),false)
 |(false,v)::l=>if decide (t<T)&&(Fi.getD v.toNat []).getD t false then (true,false) else if Nu.getD v.toNat false then wZ Nu Fi T t l else (false,false)
end Go.Proofs.YtblkkhfdeaaidaaGreatDoor
namespace Go.Proofs.YtblkkhfdeaaidaaGreatDoor
abbrev F9:=Nat×Nat->List Bool
section
variable{dom:Nat×Nat->Option Nat}{Z:Nat×Nat->Nat->Prop}{X Y W:F9}{g h:Bool}
end
section
variable(OL:List (List It))(NL:List (List Int))(R:List Ru)(T:Nat)(Nu:List Bool)(Fi:List (List Bool))
def toN(k:Nat)(s:Sy):Nat:=((NL.getD k []).getD (dX T s).toNat 0).toNat
end
section
variable{T N:Nat}{R:List Ru}{OL:List (List It)}{NL:List (List Int)}{Ls:List aI}{dom:Nat×Nat->Option Nat}{Nu:List Bool}{Fi:List (List Bool)}{k j t:Nat}{X:F9}
end
end Go.Proofs.YtblkkhfdeaaidaaGreatDoor
