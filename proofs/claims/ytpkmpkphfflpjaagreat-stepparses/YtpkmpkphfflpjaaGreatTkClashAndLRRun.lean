import Derived.Test.YtpkmpkphfflpjaaGreatTab6AndRowI
import Derived.Test.YtpkmpkphfflpjaaGreatLfpAndRef3Math
import Derived.Test.YtpkmpkphfflpjaaGreatDerdMathAndOne8Mem
set_option maxHeartbeats 3200000
set_option maxRecDepth 100000
namespace Go.Proofs.YtpkmpkphfflpjaaGreat
open Go.RowKit
def OC(c:Ce):Nat:=c.2.1.length+(if 0<=c.1 then 1 else 0)+(if c.2.2 then 1 else 0)
theorem aeu(c:Ce):decide (1<OC c)= !mG c:=by
 obtain⟨sh,ru,en⟩:=c;unfold OC mG;simp only;cases en<;>by_cases h:sh<0<;>by_cases h0:ru.length=0<;>by_cases h1:ru.length=1<;>simp[h,h0,h1,show (0<=sh)↔¬sh<0 by omega]<;>omega
theorem aev{w:World}{sh:Int}{ra:Option Addr}{n rc:Nat}{en:Bool}(hn:n<=1000):
 Calls Tryz.prog 36 #[.agg #[.int .i64 sh,.slice ra n rc,.bool en]] w fun e w'=>e= .returned (.int .i64 ((n+(if 0<=sh then 1 else 0)+(if en then 1 else 0):Nat):Int))/\Below w.heap.size w w':=by
 have HB0:Hid (Below w.heap.size w (w.alloc (.cells #[.int .i64 sh,.slice ra n rc,.bool en] 67))):=(Below.refl _ _).alloc (Nat.le_refl _) _
 go_enter Tryz.func36,Tryz.ntmps36
 by_cases h:0<=sh
 ·have hd:decide (0<=sh)=true:=decide_eq_true h
  cases en
  ·go_wp2_with fail
   go_ret;exact⟨by simp,HB0.out⟩
  ·go_wp2_with fail
   go_ret;exact⟨by simp,HB0.out⟩
 ·have hd:decide (0<=sh)=false:=decide_eq_false h
  cases en
  ·go_wp2_with fail
   go_ret;exact⟨by simp,HB0.out⟩
  ·go_wp2_with fail
   go_ret;exact⟨by simp,HB0.out⟩
theorem aew{w:World}{cv gv:Value}{C:List (List Ce)}{G:List (List Int)}(h:TabAt w cv gv C G)(hC:C.length<=1000)(hR:∀i,i<C.length->(C.getD i []).length<=1000)(hU:∀i k,i<C.length->k<(C.getD i []).length->((C.getD i []).getD k (0,[],false)).2.1.length<=1000):
 Calls Tryz.prog 18 #[.agg #[cv,gv]] w fun e w'=>e= .returned (.int .i64 (iO C))/\Below w.heap.size w w':=by
 obtain⟨ca,cc,hcv⟩:=h.cells.1;obtain⟨ga,gc,hgv⟩:=h.goto.1;subst hcv;subst hgv;have HH:Hid (ET w (.slice ca C.length cc) C):=h.cells;have HR:Hid (∀i,i<C.length->(C.getD i []).length<=1000):=hR;have HB0:Hid (Below w.heap.size w (w.alloc (.cells #[.slice ca C.length cc,.slice ga G.length gc] 44))):=(Below.refl _ _).alloc (Nat.le_refl _) _
 have Co:Hid (∀wr,Below (w.heap.size+1) (w.alloc (.cells #[.slice ca C.length cc,.slice ga G.length gc] 44)) wr->wr.cell? ⟨w.heap.size,0,none⟩=some (.slice ca C.length cc)/\Below w.heap.size w wr/\w.heap.size+1<=wr.heap.size):=fun wr hB=>
  ⟨(hB.cell (by simp)).trans (by simp[go_sem]),HB0.out.trans (hB.mono (by omega)),by have:=hB.size;simpa using this⟩
 have HU:Hid (∀i k,i<C.length->k<(C.getD i []).length->((C.getD i []).getD k (0,[],false)).2.1.length<=1000):=hU;clear h hR hU
 go_enter Tryz.func18,Tryz.ntmps18
 go_wp2_with fail
 obtain⟨WT,Wl⟩:∃W,w.alloc (.cells #[.slice ca C.length cc,.slice ga G.length gc] 44)=W:=⟨_,rfl⟩;rw[Wl]at Co⊢;clear Wl HB0
 go_loopw [3,11] (fun s3 s4 wr=> ∃i:Nat,s3= .int .i64 (iO (C.take i))/\s4= .int .i64 i/\i<=C.length/\Below (w.heap.size+1) WT wr) (fun _ s _=>C.length-(intOf s).toNat)
 case atStart=>exact⟨0,rfl,rfl,Nat.zero_le _,Below.refl _ _⟩
 case round=>
  obtain⟨i,rfl,rfl,hi,hB⟩:=hrel;have HB:Hid (Below (w.heap.size+1) WT wr):=hB;obtain⟨b0,hBw,hsz⟩:=Co.out wr hB;by_cases hlt:i<C.length
  ·have BX:iO (C.take i)<=i*1000:=by
    have:=abT (C:=C.take i) (m:=1000) fun j hj=>by
     have hj':j<i:=by simp at hj;omega
     have e:(C.take i).getD j []=C.getD j []:=by simp[List.getD,hj']
     rw[e];exact HR.out j (by omega)
    simp only[List.length_take]at this;rw[Nat.min_eq_left hi]at this;exact this
   obtain⟨Xr,pu⟩:∃x,C.getD i []=x:=⟨_,rfl⟩;have Bp:Hid (C.getD i []=Xr):=pu;have FM:Xr.length<=1000:=by rw[<-pu];exact HR.out i hlt
   obtain⟨b,o,c,rv,hv,d0,hcs⟩:=(HH.out.below hBw).2 i hlt;cases hv;rw[pu]at hcs;obtain⟨xa,xc,bW⟩:=hcs.1;subst bW;have i0:(0:Int)<=(i:Int):=Int.natCast_nonneg _;have i1:(i:Int)<(C.length:Int):=by omega
   have uP:Hid (∀wq,Below wr.heap.size wr wq->ES wq (.slice xa Xr.length xc) Xr):=fun wq hb=>hcs.below hb;clear hB hBw pu hcs
   go_wp2_with fail
   clear b0 d0;obtain⟨wi,hwi⟩:∃x,wr=x:=⟨_,rfl⟩;have uM:Hid (Below (w.heap.size+1) WT wi):=by rw[<-hwi];exact HB.out
   have hsz':w.heap.size+1<=wi.heap.size:=by rw[<-hwi];exact hsz
   rw[hwi]at uP
   go_loopw [3,17] (fun s3 s5 wq=> ∃k:Nat,s3= .int .i64 ((iO (C.take i)+nR (Xr.take k):Nat):Int)/\s5= .int .i64 k/\k<=Xr.length/\Below wi.heap.size wi wq) (fun _ s _=>Xr.length-(intOf s).toNat)
   case atStart=>exact⟨0,by simp[nR],rfl,Nat.zero_le _,by subst hwi;exact Below.refl _ _⟩
   case round=>
    obtain⟨k,rfl,rfl,hk,hB⟩:=hrel;have HB2:Hid (Below wi.heap.size wi wr):=hB;have hcs:=uP.out wr hB;have hcr:=TN (Xr.take k);simp only[List.length_take]at hcr;obtain⟨q,hq⟩:∃q,iO (C.take i)+nR (Xr.take k)=q:=⟨_,rfl⟩;have HQ:Hid (iO (C.take i)+nR (Xr.take k)=q):=hq;have hqb:q<=2000000:=by omega
    rw[hq];have aex:=hB.size;clear hB hq;by_cases OD:k<Xr.length
    ·obtain⟨b',o',c',rl,hv',e0,e1,e2,e3⟩:=hcs.2 k OD
     cases hv';have hstep:=abS OD;have Ct:=HU.out i k hlt (by rw[Bp.out];exact OD);rw[Bp.out]at Ct;obtain⟨⟨sh,ru,en⟩,hce⟩:∃x,Xr.getD k (0,[],false)=x:=⟨_,rfl⟩;rw[hce]at e0 e2 e3 hstep Ct;simp only at e0 e2 e3 Ct;obtain⟨ra,rc,hrl⟩:=e2.1;subst hrl;have k0:(0:Int)<=(k:Int):=Int.natCast_nonneg _;have k1:(k:Int)<(Xr.length:Int):=by omega
     have hsy:=aeu (sh,ru,en);have say:=aev (w:=wr.alloc (.cells #[.int .i64 sh,.slice ra ru.length rc,.bool en] 67)) (sh:=sh) (ra:=ra) (rc:=rc) (en:=en) Ct;obtain⟨m,hmm⟩:∃m,OC (sh,ru,en)=m:=⟨_,rfl⟩;have hmm':ru.length+(if 0<=sh then 1 else 0)+(if en then 1 else 0)=m:=hmm;rw[hmm']at say;rw[hmm]at hsy;obtain⟨z,hz⟩:∃z,mG (sh,ru,en)=z:=⟨_,rfl⟩;rw[hz]at hstep hsy;have qJ:Hid (nR (Xr.take (k+1))=nR (Xr.take k)+(if z then 0 else 1)):=hstep;have hd:decide ((1:Int)<(m:Int))= !z:=by rw[<-hsy,Bool.eq_iff_iff,decide_eq_true_eq,decide_eq_true_eq];omega
     have HA:Hid (Below wi.heap.size wi (wr.alloc (.cells #[.int .i64 sh,.slice ra ru.length rc,.bool en] 67))):=HB2.out.alloc aex _;clear hcs hstep hce e2 hz hsy hmm hmm';cases z with
     |true=>
      simp only[Bool.not_true]at hd;simp only[if_true,Nat.add_zero]at qJ
      go_wp2_with (go_at_call 36;refine say.mono ?_;rintro e w5 ⟨rfl,ay⟩
                   have bV:Hid (Below wi.heap.size wi w5):=HA.out.trans (ay.mono (by simp;omega))
                   clear ay)
      go_roundw
      case rel=>exact⟨k+1,by rw[qJ.out,<-HQ.out]<;>first|rfl|go_num,by go_num,by omega,bV.out⟩
      case measure=>simp[intOf];omega
     |false=>
      simp only[Bool.not_false]at hd;simp only[Bool.false_eq_true,if_false]at qJ
      go_wp2_with (go_at_call 36;refine say.mono ?_;rintro e w5 ⟨rfl,ay⟩
                   have bV:Hid (Below wi.heap.size wi w5):=HA.out.trans (ay.mono (by simp;omega))
                   clear ay)
      go_roundw
      case rel=>exact⟨k+1,by rw[qJ.out,<-HQ.out]<;>first|rfl|go_num,by go_num,by omega,bV.out⟩
      case measure=>simp[intOf];omega
    ·have HE:Hid (iO (C.take (i+1))=q):=by
      show iO (C.take (i+1))=q;rw[TM hlt,Bp.out,<-HQ.out,List.take_of_length_le (by omega:Xr.length<=k)]
     have Cm:Hid (Below (w.heap.size+1) WT wr):=uM.out.trans (HB2.out.mono hsz');clear hcs
     go_wp2_with fail
     go_roundw
     case rel=>exact⟨i+1,by rw[HE.out],by go_num,by omega,Cm.out⟩
     case measure=>simp[intOf];omega
  ·obtain rfl:i=C.length:=by omega
   have iK:Hid (Below w.heap.size w wr):=hBw;rw[List.take_length];clear hB hBw
   go_wp2_with fail
   go_ret;exact⟨rfl,iK.out⟩
end Go.Proofs.YtpkmpkphfflpjaaGreat
namespace Go.Proofs.YtpkmpkphfflpjaaGreat
section
variable{T N:Nat}{R:List Ru}(hf:cO T N R)
include hf
def aey(N:Nat)(R:List Ru)(Z:List Int)(l:List Sy):Prop:=(Z=[]->kR (dS N R) l)/\∀t z,Z=t::z->jG (dS N R) (iy N R t) t l
omit hf in
theorem jG.cons{Nu A:Int->Prop}{t:Int}{s:Sy}{l:List Sy}(h1:s.1=false)(h2:Nu s.2)(h:jG Nu A t l):jG Nu A t (s::l):=by
 obtain⟨i,x,a1,a2,a3⟩:=h;refine⟨i+1,x,by simpa using a1,a2,fun y hy=> ?_⟩;simp only[List.take_succ_cons,List.mem_cons]at hy;rcases hy with rfl|hy
 ·exact⟨h1,h2⟩
 ·exact a3 y hy
end
def rP(T N:Nat)(s:Sy):Prop:=0<=s.2/\s.2<if s.1 then (T:Int) else (N:Int)
theorem aez{T N:Nat}{s s':Sy}(h:rP T N s)(h':rP T N s')(e:dB T s=dB T s'):s=s':=by
 obtain⟨b,v⟩:=s;obtain⟨b',v'⟩:=s';cases b<;>cases b'<;>simp_all [rP,dB]<;>omega
theorem Wm{T N:Nat}{s:Sy}(h:rP T N s):0<=dB T s/\dB T s<(T:Int)+N:=by
 obtain⟨b,v⟩:=s;cases b<;>simp_all [rP,dB]<;>omega
theorem FN{T N:Nat}{R:List Ru}(hf:cO T N R){r:Nat}(hr:r<=R.length):∀s∈aJ R r,rP T N s:=fun s hs=>by
 unfold aJ at hs;split at hs
 ·simp only[List.mem_singleton]at hs
  subst hs;have:=hf.some;simp[rP];omega
 ·have hm:R.getD r (0,[])∈R:=by simp[List.getD,show r<R.length by omega]
  obtain⟨b,v⟩:=s;cases b with
  |true=>have:=hf.term _ hm _ hs rfl;simpa [rP] using this
  |false=>have:=hf.name _ hm _ hs rfl;simpa [rP] using this
theorem JS{R:List Ru}{r:Nat}(h:r<R.length):aJ R r=(R.getD r (0,[])).2:=by
 unfold aJ;rw[if_neg (by omega)]
structure lG(T N:Nat)(R:List Ru)(NL:List (List Int))(Ls:List aX):Prop where
 fine:cO T N R
 pos:0<Ls.length
 zero:Ls.getD 0 bG=Cl R (fun i=>i=(R.length,0))
 go:∀k,k<Ls.length->∀x,x<T+N->vW T R Ls k x ((NL.getD k []).getD x 0)
 closed:∀k,k<Ls.length->vX R (Ls.getD k bG)
theorem OE{T N:Nat}{R:List Ru}{K:Nat}(hf:cO T N R)(h:Whole T N R K)(hK:0<K):lG T N R (ak T N R K).1 (ak T N R K).2:=by
 have hl:(ak T N R K).2.length=K:=h;refine⟨hf,by omega,?_,fun k hk x hx=>(Np (EQ h) k (by omega) x hx).2,fun k hk=>TK (T:=T) (N:=N) K _ ?_⟩
 ·obtain⟨E,hE⟩:=Nl (T:=T) (N:=N) (R:=R) 0 K (Nat.zero_le _)
  rw[hE];rfl
 ·simp[List.getD,hk]
section
variable{T N:Nat}{R:List Ru}{NL:List (List Int)}{Ls:List aX}
def yj(T:Nat)(NL:List (List Int))(k:Nat)(s:Sy)(n:Nat):Prop:=(NL.getD k []).getD (dB T s).toNat 0=(n:Int)
theorem lG.goes(h:lG T N R NL Ls){k:Nat}(hk:k<Ls.length){i:It}(hi:Ls.getD k bG i)(hr:i.1<=R.length){s:Sy}(hs:(aJ R i.1)[i.2]?=some s):
 ∃n,yj T NL k s n/\n<Ls.length/\Ls.getD n bG=pG T R (Ls.getD k bG) (dB T s).toNat/\Ls.getD n bG (i.1,i.2+1):=by
 have hok:=Wm (FN h.fine hr s (List.mem_of_getElem? hs));have hx:(((dB T s).toNat:Nat):Int)=dB T s:=by omega
 obtain⟨n,h1,h2,h3⟩:=(h.go k hk (dB T s).toNat (by omega)).some ⟨i,hi,s,hs,hx.symm⟩;exact⟨n,h1,h2,h3,by rw[h3];exact Nr hi hs hx.symm⟩
theorem JU{S:aX}(h:∀i,S i->i.1<=R.length):∀i,Cl R S i->i.1<=R.length:=by
 intro i hi
 induction hi with
 |base h1=>exact h _ h1
 |step _ _ h2 _ _=>exact Nat.le_of_lt h2
theorem Wn{S:aX}{r d:Nat}(h:Cl R S (r,d+1)):S (r,d+1):=by
 cases h with
 |base h=>exact h
theorem Wo{S:aX}{r:Nat}(h:Cl R S (r,0)):S (r,0)\/(r<R.length/\∃i,Cl R S i/\(aJ R i.1)[i.2]?=some (false,(R.getD r (0,[])).1)):=by
 cases h with
 |base h=>exact .inl h
 |step h1 h2 h3 h4=>exact .inr ⟨h3,_,h1,by rw[h4];exact h2⟩
structure PC where
 S:List Nat
 F:List (List Int)
 pos:Nat
 many:Nat
inductive PR where
 |go (c:PC)
 |fin (d:List Int)
 |no (n:Nat)
def gL(T:Nat)(tok:List Int)(p:Nat):Nat:=if p<tok.length then (tok.getD p 0).toNat else T
def ve(c:PC):Nat:=c.S.getD (c.S.length-1) 0
def Cu(R:List Ru)(go:Nat->Nat->Int)(c:PC)(q:Int):PC:=
 let r:=R.getD q.toNat (0,[])
 let keep:=c.F.length-r.2.length
 ⟨c.S.take (keep+1)++[(go (c.S.getD keep 0) r.1.toNat).toNat],c.F.take keep++[q::(c.F.drop keep).flatten],c.pos,c.many+1⟩
def nT(R:List Ru)(go:Nat->Nat->Int)(c:PC)(x:Ce):PR:=
 if x.2.2 then .fin (c.F.getD 0 [])
 else if 0<=x.1 then .go ⟨c.S++[x.1.toNat],c.F++[[]],c.pos+1,c.many⟩
 else match x.2.1 with
  | []=> .no c.pos
  |q::_=> .go (Cu R go c q)
def jd(T:Nat)(R:List Ru)(ce:Nat->Nat->Ce)(go:Nat->Nat->Int)(tok:List Int)(c:PC):PR:=nT R go c (ce (ve c) (gL T tok c.pos))
inductive Runs(T:Nat)(R:List Ru)(ce:Nat->Nat->Ce)(go:Nat->Nat->Int)(tok:List Int):PC->PC->Prop
 |refl (c:PC):Runs T R ce go tok c c
 |step {c c' c'':PC} (h:jd T R ce go tok c= .go c') (k:Runs T R ce go tok c' c''):Runs T R ce go tok c c''
theorem Runs.trans{ce:Nat->Nat->Ce}{go:Nat->Nat->Int}{tok:List Int}{a b c:PC}(h:Runs T R ce go tok a b)(k:Runs T R ce go tok b c):Runs T R ce go tok a c:=by
 induction h with
 |refl=>exact k
 |step h1 _ ih=>exact .step h1 (ih k)
open Classical in
theorem aeA{k t n:Nat}(h1:mG (cellP T N R NL Ls k t)=true)(ht:t<T)(hn:(NL.getD k []).getD t 0=(n:Int)):(cellP T N R NL Ls k t).1=(n:Int)/\(cellP T N R NL Ls k t).2.2=false:=by
 have e:(cellP T N R NL Ls k t).1=(n:Int):=by unfold cellP;simp only[ht,if_true];exact hn
 refine⟨e,?_⟩;unfold mG at h1;rw[e]at h1;have hd:decide ((n:Int)<0)=false:=decide_eq_false (by omega);rw[hd]at h1;simp only[Bool.false_and,Bool.or_false,Bool.and_eq_true,Bool.not_eq_true']at h1;exact h1.2
open Classical in
theorem aeB{k t q:Nat}(h1:mG (cellP T N R NL Ls k t)=true)(hq:q<R.length)(hd:tu T N R NL Ls k t q):(cellP T N R NL Ls k t).1<0/\(cellP T N R NL Ls k t).2.1=[(q:Int)]/\(cellP T N R NL Ls k t).2.2=false:=by
 have hm:(q:Int)∈(cellP T N R NL Ls k t).2.1:=by
  unfold cellP;simp only[List.mem_map,List.mem_filter,List.mem_range,decide_eq_true_eq];exact⟨q,⟨hq,hd⟩,rfl⟩
 obtain⟨x,hx⟩:∃x,cellP T N R NL Ls k t=x:=⟨_,rfl⟩;rw[hx]at h1 hm⊢;obtain⟨s,l,e⟩:=x;simp only at hm⊢;unfold mG at h1;simp only at h1;have hl:l.length≠0:=fun h0=>by rw[List.length_eq_zero_iff]at h0;rw[h0]at hm;cases hm
 simp only[hl,decide_false,Bool.false_and,Bool.false_or,Bool.and_eq_true,decide_eq_true_eq,Bool.not_eq_true']at h1;obtain⟨h2,h3,h4⟩:=h1;obtain⟨a,rfl⟩:=List.length_eq_one_iff.1 h3;simp only[List.mem_singleton]at hm;subst hm;exact⟨h2,rfl,h4⟩
open Classical in
theorem aeC{k t:Nat}(hd:tu T N R NL Ls k t R.length):(cellP T N R NL Ls k t).2.2=true:=by
 unfold cellP;exact decide_eq_true hd
end
section
variable{T N:Nat}{R:List Ru}(hf:cO T N R)
include hf
theorem aeD:∀(k:Nat) (n:Int) (d Z:List Int),kN R k n d Z->(Z=[]->dS N R n)/\∀t z,Z=t::z->iy N R t n:=by
 intro k
 induction k with
 |zero=>intro n d Z h;exact h.elim
 |succ k ih=>
  have seq:∀(l:List Sy) (d Z:List Int),jm (kN R k) l d Z->aey N R Z l:=by
   intro l
   induction l with
   |nil=>rintro d Z ⟨_,rfl⟩;exact⟨fun _ s hs=>(by cases hs),fun t z h=>(by cases h)⟩
   |cons s l ihl=>
    intro d Z h;obtain⟨b,v⟩:=s;cases b with
    |true=>
     obtain⟨Z',rfl,_⟩:=h;refine⟨fun h=>(by cases h),fun t z h=> ?_⟩;cases h;exact⟨0,(true,v),rfl,.inl ⟨rfl,rfl⟩,fun y hy=>by simp at hy⟩
    |false=>
     obtain⟨d1,d2,Z1,Z2,_,rfl,h3,h4⟩:=h;obtain⟨n1,t1⟩:=ih _ _ _ h3;obtain⟨n2,t2⟩:=ihl _ _ h4;refine⟨fun h=> ?_,fun t z h=> ?_⟩
     ·obtain⟨h5,h6⟩:=List.append_eq_nil_iff.1 h
      intro y hy;rcases List.mem_cons.1 hy with rfl|hy
      ·exact⟨rfl,n1 h5⟩
      ·exact n2 h6 y hy
     ·cases Z1 with
      |nil=>exact(t2 t z (by simpa using h)).cons rfl (n1 rfl)
      |cons a Z1=>
       simp only[List.cons_append,List.cons.injEq]at h;obtain⟨rfl,_⟩:=h;exact⟨0,(false,v),rfl,.inr ⟨rfl,t1 a Z1 rfl⟩,fun y hy=>by simp at hy⟩
  rintro n d Z ⟨q,hq,hL,d',_,hs⟩;have hmem:R.getD q (0,[])∈R:=by simp[List.getD,hq]
  obtain⟨f1,f2⟩:=seq _ _ _ hs;exact⟨fun hz=>jo (KD hf) _ ⟨_,hmem,hL,f1 hz⟩,fun t z hz=>jo (Gq hf _ _) _ ⟨_,hmem,hL,f2 t z hz⟩⟩
theorem aeE{k:Nat}:∀(l:List Sy) (d Z:List Int),jm (kN R k) l d Z->(Z=[]->xJ (dO R N) l=true)/\∀(t:Nat) z,t<T->Z=(t:Int)::z->nQ (dO R N) (jg R (dO R N) T N) T l t=true:=by
 have hnu:=KF hf;have hfi:=KG hf hnu.2;intro l
 induction l with
 |nil=>rintro d Z ⟨_,rfl⟩;exact⟨fun _=>rfl,fun t z _ h=>(by cases h)⟩
 |cons s l ih=>
  intro d Z h;obtain⟨b,v⟩:=s;cases b with
  |true=>
   obtain⟨Z',rfl,_⟩:=h;refine⟨fun h=>(by cases h),fun t z _ h=> ?_⟩;simp only[List.cons.injEq]at h;simp[nQ,uS,h.1]
  |false=>
   obtain⟨d1,d2,Z1,Z2,_,rfl,h3,h4⟩:=h;obtain⟨n1,t1⟩:=aeD hf _ _ _ _ h3;obtain⟨n2,t2⟩:=ih _ _ h4;refine⟨fun h=> ?_,fun t z ht h=> ?_⟩
   ·obtain⟨h5,h6⟩:=List.append_eq_nil_iff.1 h
    have:=((hnu.2 v).2 (n1 h5)).2;show (((false,v)::l).all fun s=> !s.1&&(dO R N).getD s.2.toNat false)=true;rw[List.all_cons];simp only[Bool.not_false,Bool.true_and];rw[this];exact n2 h6
   ·unfold nQ
    simp only[uS];split
    ·rfl
    ·rename_i hno
     cases Z1 with
     |nil=>
      have:=((hnu.2 v).2 (n1 rfl)).2;rw[if_pos this];exact t2 t z ht (by simpa using h)
     |cons a Z1=>
      simp only[List.cons_append,List.cons.injEq]at h;obtain⟨rfl,_⟩:=h;have:=((hfi.2 t ht v).2 (t1 t Z1 rfl)).2;refine absurd ?_ hno;rw[this];simp[ht]
end
abbrev ig(T:Nat)(NL:List (List Int))(k n:Nat):Int:=(NL.getD k []).getD (T+n) 0
section
variable{T N:Nat}{R:List Ru}{NL:List (List Int)}{Ls:List aX}{tok:List Int}
theorem OG(S:List Nat)(q:Nat)(F:List (List Int))(p many:Nat):ve ⟨S++[q],F,p,many⟩=q:=by
 unfold ve;simp[List.getD]
theorem Wp(je:∀t∈tok,0<=t/\t<(T:Int))(p:Nat):gL T tok p<=T:=by
 unfold gL;split
 ·rename_i h
  have:=je tok[p] (List.getElem_mem h);have e:tok.getD p 0=tok[p]:=by simp[List.getD,h]
  rw[e];omega
 ·omega
theorem Wq{p:Nat}{v:Int}{Z:List Int}(h:tok.drop p=v::Z):p<tok.length/\tok.getD p 0=v/\tok.drop (p+1)=Z:=by
 have hp:p<tok.length:=by
  rcases Nat.lt_or_ge p tok.length with h1|h1
  ·exact h1
  ·rw[List.drop_eq_nil_of_le h1]at h;cases h
 rw[List.drop_eq_getElem_cons hp]at h;simp only[List.cons.injEq]at h;exact⟨hp,by rw[<-h.1];simp[List.getD,hp],h.2⟩
def Ws(T N:Nat)(R:List Ru)(NL:List (List Int))(Ls:List aX)(tok:List Int)(k:Nat):Prop:=
 ∀n d Z,kN R k n d Z->∀(S:List Nat) (q:Nat) (F:List (List Int)) (p many:Nat),S.length=F.length->q<Ls.length->(∃i,Ls.getD q bG i/\i.1<=R.length/\(aJ R i.1)[i.2]?=some (false,n))->tok.drop p=Z++tok.drop (p+Z.length)->
  (∀m,m<R.length->(R.getD m (0,[])).1=n->vY T R (dO R N) (jg R (dO R N) T N) NL Ls q (m,0) (gL T tok (p+Z.length)))->
  ∃g,g<Ls.length/\yj T NL q (false,n) g/\Runs T R (cellP T N R NL Ls) (ig T NL) tok ⟨S++[q],F,p,many⟩ ⟨S++[q]++[g],F++[d],p+Z.length,many+d.length⟩
theorem aeF(lr:lG T N R NL Ls)(hone:∀k,k<Ls.length->∀t,t<=T->mG (cellP T N R NL Ls k t)=true)(je:∀t∈tok,0<=t/\t<(T:Int)){k:Nat}(hN:Ws T N R NL Ls tok k){m:Nat}(hm:m<=R.length):
 ∀(l:List Sy) (j:Nat),(aJ R m).drop j=l->∀(d Z:List Int),jm (kN R k) l d Z->∀(S:List Nat) (q:Nat) (F:List (List Int)) (p many:Nat),S.length=F.length->q<Ls.length->Ls.getD q bG (m,j)->vY T R (dO R N) (jg R (dO R N) T N) NL Ls q (m,j) (gL T tok (p+Z.length))->j<=(aJ R m).length->tok.drop p=Z++tok.drop (p+Z.length)->
 ∃(qs:List Nat) (fs:List (List Int)) (S':List Nat) (e:Nat),S++[q]++qs=S'++[e]/\qs.length=l.length/\fs.length=l.length/\fs.flatten=d/\e<Ls.length/\Ls.getD e bG (m,(aJ R m).length)/\vY T R (dO R N) (jg R (dO R N) T N) NL Ls e (m,(aJ R m).length) (gL T tok (p+Z.length))/\
  Runs T R (cellP T N R NL Ls) (ig T NL) tok ⟨S++[q],F,p,many⟩ ⟨S++[q]++qs,F++fs,p+Z.length,many+d.length⟩:=by
 intro l
 induction l with
 |nil=>
  rintro j hj d Z ⟨rfl,rfl⟩ S q F p many _ hq hi hlk hjl _
  have hjr:j=(aJ R m).length:=by
   have:=congrArg List.length hj;simp only[List.length_drop,List.length_nil]at this;omega
  subst hjr;exact⟨[],[],S,q,by simp,rfl,rfl,rfl,hq,hi,hlk,by simpa using Runs.refl _⟩
 |cons s l ih=>
  intro j hj d Z hs S q F p many zV hq hi hlk hjl htk
  have hjlt:j<(aJ R m).length:=by
   rcases Nat.lt_or_ge j (aJ R m).length with h|h
   ·exact h
   ·rw[List.drop_eq_nil_of_le h]at hj;cases hj
  rw[List.drop_eq_getElem_cons hjlt]at hj;simp only[List.cons.injEq]at hj;obtain⟨hjs,hjd⟩:=hj;have hsome:(aJ R m)[j]?=some s:=by rw[List.getElem?_eq_getElem hjlt,hjs]
  have aeG:=FN lr.fine hm s (List.mem_of_getElem? hsome);obtain⟨b,v⟩:=s;cases b with
  |true=>
   obtain⟨Z',rfl,hs'⟩:=hs;simp only[List.cons_append,List.length_cons]at htk hlk;obtain⟨hp,hpv,hdr⟩:=Wq htk;have hv:0<=v/\v<(T:Int):=by simpa [rP] using aeG
   obtain⟨n',g1,g2,g3,g4⟩:=lr.goes hq hi hm hsome;have hnt:gL T tok p=v.toNat:=by unfold gL;rw[if_pos hp,hpv]
   have hgo:(NL.getD q []).getD v.toNat 0=(n':Int):=by
    have:=g1;unfold yj at this;simpa [dB] using this
   obtain⟨c1,c2⟩:=aeA (hone q hq v.toNat (by omega)) (by omega) hgo
   have hstep:jd T R (cellP T N R NL Ls) (ig T NL) tok ⟨S++[q],F,p,many⟩= .go ⟨S++[q]++[n'],F++[[]],p+1,many⟩:=by
    unfold jd;rw[OG];simp only;rw[hnt];unfold nT;rw[c2,c1];simp
   have aeH:vY T R (dO R N) (jg R (dO R N) T N) NL Ls n' (m,j+1) (gL T tok (p+1+Z'.length)):=by
    rw[show p+1+Z'.length=p+(Z'.length+1) by omega];exact lC.on hlk hsome g1
   obtain⟨qs,fs,S',e,e1,e2,e3,e4,e5,e6,e7,e8⟩:=ih (j+1) hjd d Z' hs' (S++[q]) n' (F++[[]]) (p+1) many (by simp[zV]) g2 g4 aeH hjlt (by rw[hdr,show p+1+Z'.length=p+(Z'.length+1) by omega]);refine⟨n'::qs,[]::fs,S',e,by rw[<-e1];simp,by simp[e2],by simp[e3],by simpa using e4,e5,e6,?_,?_⟩
   ·simp only[List.length_cons]
    rw[show p+(Z'.length+1)=p+1+Z'.length by omega];exact e7
   ·simp only[List.length_cons]
    rw[show p+(Z'.length+1)=p+1+Z'.length by omega];refine .step hstep ?_;have a1:S++[q]++n'::qs=S++[q]++[n']++qs:=by simp
    have a2:F++[]::fs=F++[[]]++fs:=by simp
    rw[a1,a2];exact e8
  |false=>
   obtain⟨d1,d2,Z1,Z2,rfl,rfl,h3,h4⟩:=hs;have hpl:p+(Z1++Z2).length=p+Z1.length+Z2.length:=by simp;omega
   rw[hpl]at htk hlk
   have hd1:tok.drop p=Z1++tok.drop (p+Z1.length):=by
    have:tok.drop (p+Z1.length)=(tok.drop p).drop Z1.length:=by rw[List.drop_drop]
    rw[this,htk,List.append_assoc];simp
   have hd2:tok.drop (p+Z1.length)=Z2++tok.drop (p+Z1.length+Z2.length):=by
    have:tok.drop (p+Z1.length)=(tok.drop p).drop Z1.length:=by rw[List.drop_drop]
    rw[this,htk,List.append_assoc];simp
   have hfs:=aeE lr.fine l d2 Z2 h4;have hdl:(aJ R m).drop (j+1)=l:=hjd
   have hclose:∀m',m'<R.length->(R.getD m' (0,[])).1=v->vY T R (dO R N) (jg R (dO R N) T N) NL Ls q (m',0) (gL T tok (p+Z1.length)):=fun m' hm' hL=>by
    cases Z2 with
    |nil=>
     simp only[List.length_nil,Nat.add_zero]at hlk;exact lC.nothing hlk hsome hm' hL (by rw[hdl];exact hfs.1 rfl)
    |cons t z=>
     simp only[List.cons_append]at hd2;obtain⟨hp,hpv,_⟩:=Wq hd2;have ht:=je t (by rw[<-hpv];simp[List.getD,hp]);have hnt:gL T tok (p+Z1.length)=t.toNat:=by unfold gL;rw[if_pos hp,hpv]
     rw[hnt];have htt:((t.toNat:Nat):Int)=t:=by omega
     exact lC.begins hq hi hsome hm' hL (by omega) (by rw[hdl];exact hfs.2 t.toNat z (by omega) (by rw[htt]))
   obtain⟨g,hg,g1,g2⟩:=hN v d1 Z1 h3 S q F p many zV hq ⟨(m,j),hi,hm,hsome⟩ hd1 hclose;obtain⟨n',t1,t2,t3,t4⟩:=lr.goes hq hi hm hsome
   have hgn:n'=g:=by
    unfold yj at t1 g1;rw[t1]at g1;omega
   subst hgn;obtain⟨qs,fs,S',e,e1,e2,e3,e4,e5,e6,e7,e8⟩:=ih (j+1) hdl d2 Z2 h4 (S++[q]) n' (F++[d1]) (p+Z1.length) (many+d1.length) (by simp[zV]) hg t4 (lC.on hlk hsome t1) hjlt hd2;refine⟨n'::qs,d1::fs,S',e,by rw[<-e1];simp,by simp[e2],by simp[e3],by simp[e4],e5,e6,by rw[hpl];exact e7,?_⟩;rw[hpl];refine g2.trans ?_;have a1:S++[q]++n'::qs=S++[q]++[n']++qs:=by simp
   have a2:F++d1::fs=F++[d1]++fs:=by simp
   have a3:many+(d1++d2).length=many+d1.length+d2.length:=by simp;omega
   rw[a1,a2,a3];exact e8
theorem aeI(lr:lG T N R NL Ls)(hone:∀k,k<Ls.length->∀t,t<=T->mG (cellP T N R NL Ls k t)=true)(je:∀t∈tok,0<=t/\t<(T:Int)):∀k,Ws T N R NL Ls tok k:=by
 intro k
 induction k with
 |zero=>intro n d Z h;exact h.elim
 |succ k ih=>
  rintro n d Z ⟨m,hm,hL,d',rfl,hs⟩ S q F p many zV hq ⟨i,hi,hir,hin⟩ htk hclose;obtain⟨g,g1,g2,_,_⟩:=lr.goes hq hi hir hin;have hrr:=JS hm;have hcl:Ls.getD q bG (m,0):=Nq (lr.closed q hq) hi hin hm hL;obtain⟨qs,fs,S',e,e1,e2,e3,e4,e5,e6,e7,e8⟩:=aeF lr hone je ih (Nat.le_of_lt hm) (aJ R m) 0 (by simp) d' Z (by rw[hrr];exact hs) S q F p many zV hq hcl (hclose m hm hL) (Nat.zero_le _) htk;refine⟨g,g2,g1,e8.trans (.step (c':=⟨S++[q]++[g],F++[(m:Int)::d'],p+Z.length,many+((m:Int)::d').length⟩) ?_ (.refl _))⟩;obtain⟨c1,c2,c3⟩:=aeB (hone e e5 _ (Wp je (p+Z.length))) hm ⟨e6,e7⟩
  have hn0:0<=n:=by
   have:=lr.fine.left (R.getD m (0,[])) (by simp[List.getD,hm]);omega
  unfold jd;rw[e1,OG];simp only;unfold nT;rw[c3,c2];simp only[Bool.false_eq_true,if_false];rw[if_neg (by omega)];rw[<-e1];unfold Cu;simp only[Int.toNat_natCast]
  have hk:(F++fs).length-(R.getD m (0,[])).2.length=F.length:=by
   rw[List.length_append,e3,hrr];omega
  rw[hk]
  have t1:(S++[q]++qs).take (F.length+1)=S++[q]:=by
   rw[<-zV];have:(S++[q]).length=S.length+1:=by simp
   rw[<-this,List.take_left]
  have t2:(S++[q]++qs).getD F.length 0=q:=by
   rw[<-zV,List.append_assoc];simp[List.getD]
  have t3:(ig T NL q (R.getD m (0,[])).1.toNat).toNat=g:=by
   unfold ig;rw[hL];have hg:=g1;unfold yj at hg;have e:(dB T (false,n)).toNat=T+n.toNat:=by simp[dB];omega
   rw[e]at hg;rw[hg];simp
  rw[t1,t2,t3,List.take_left,List.drop_left,e4];simp[Nat.add_assoc]
theorem aeJ(lr:lG T N R NL Ls)(hone:∀k,k<Ls.length->∀t,t<=T->mG (cellP T N R NL Ls k t)=true)(je:∀t∈tok,0<=t/\t<(T:Int)){d:List Int}(h:jf R 0 d tok):
 ∃g,Runs T R (cellP T N R NL Ls) (ig T NL) tok ⟨[0],[],0,0⟩ ⟨[0,g],[d],tok.length,d.length⟩/\jd T R (cellP T N R NL Ls) (ig T NL) tok ⟨[0,g],[d],tok.length,d.length⟩= .fin d:=by
 obtain⟨k,hk⟩:=h;have hi:Ls.getD 0 bG (R.length,0):=by rw[lr.zero];exact Cl.base rfl
 have hr:aJ R R.length=[(false,0)]:=by simp[aJ]
 have hin:(aJ R R.length)[0]?=some (false,0):=by rw[hr];rfl
 have hend:gL T tok tok.length=T:=by unfold gL;rw[if_neg (by omega)]
 obtain⟨g,g1,g2,g3⟩:=aeI lr hone je k 0 d tok hk [] 0 [] 0 0 rfl lr.pos ⟨(R.length,0),hi,Nat.le_refl _,hin⟩ (by simp) (fun m hm hL=>by
  rw[Nat.zero_add,hend]
  exact lC.nothing lC.start hin hm hL (by rw[hr];rfl))
 refine⟨g,by simpa using g3,?_⟩;obtain⟨n',t1,t2,t3,t4⟩:=lr.goes lr.pos hi (Nat.le_refl _) hin
 have hgn:n'=g:=by
  unfold yj at t1 g2;rw[t1]at g2;omega
 subst hgn
 have hd:tu T N R NL Ls n' T R.length:=by
  unfold tu;rw[hr];exact⟨t4,lC.on lC.start hin t1⟩
 unfold jd;have:=OG [0] n' [d] tok.length d.length;simp only[List.cons_append,List.nil_append]at this;rw[this];simp only;rw[hend];unfold nT;rw[aeC hd];rfl
end
section
variable{T N:Nat}{R:List Ru}{NL:List (List Int)}{Ls:List aX}{tok:List Int}
def One(R:List Ru)(s:Sy)(f z:List Int):Prop:=(s.1=true/\f=[]/\z=[s.2])\/(s.1=false/\jf R s.2 f z)
inductive jR(T N:Nat)(R:List Ru)(NL:List (List Int))(Ls:List aX):List Nat->List Sy->List (List Int)->List Int->Prop
 |nil:jR T N R NL Ls [0] [] [] []
 |push {S:List Nat} {X:List Sy} {F:List (List Int)} {Z:List Int} {q g:Nat} {s:Sy} {f z:List Int} (h:jR T N R NL Ls (q::S) X F Z) (hs:rP T N s) (hg:g<Ls.length) (he:Ls.getD g bG=pG T R (Ls.getD q bG) (dB T s).toNat) (h1:One R s f z):jR T N R NL Ls (g::q::S) (s::X) (f::F) (Z++z)
theorem jR.lens{S:List Nat}{X:List Sy}{F:List (List Int)}{Z:List Int}(h:jR T N R NL Ls S X F Z):S.length=F.length+1/\X.length=F.length:=by
 induction h with
 |nil=>exact⟨rfl,rfl⟩
 |push _ _ _ _ _ ih=>simp only[List.length_cons]at ih⊢;omega
theorem jR.lt(lr:lG T N R NL Ls){q:Nat}{S:List Nat}{X:List Sy}{F:List (List Int)}{Z:List Int}(h:jR T N R NL Ls (q::S) X F Z):q<Ls.length:=by
 cases h with
 |nil=>exact lr.pos
 |push _ _ hg _ _=>exact hg
theorem jR.rule(lr:lG T N R NL Ls):∀{S':List Nat} {X:List Sy} {F:List (List Int)} {Z:List Int},jR T N R NL Ls S' X F Z->∀q S,S'=q::S->∀i,Ls.getD q bG i->i.1<=R.length:=by
 intro S' X F Z h
 induction h with
 |nil=>
  intro q S e i hi;injection e with e1;subst e1;rw[lr.zero]at hi;exact JU (fun i h=>by rw[h];exact Nat.le_refl _) i hi
 |push _ _ _ he _ ih=>
  intro q S e i hi;injection e with e1;subst e1;rw[he]at hi;refine JU (fun i h=> ?_) i hi;obtain⟨j,h1,_,rfl⟩:=h;exact ih _ _ rfl j h1
theorem aeK{l:List Sy}{s:Sy}{d f Z z:List Int}(h:jm (jf R) l d Z)(h1:One R s f z):jm (jf R) (l++[s]) (d++f) (Z++z):=by
 refine XP h ?_;obtain⟨b,v⟩:=s;rcases h1 with⟨hb,rfl,rfl⟩|⟨hb,h2⟩
 ·simp only at hb
  subst hb;exact⟨[],rfl,rfl,rfl⟩
 ·simp only at hb
  subst hb;exact⟨f,[],z,[],by simp,by simp,h2,rfl,rfl⟩
theorem jR.back(lr:lG T N R NL Ls){r:Nat}:∀(n:Nat) {e:Nat} {S:List Nat} {X:List Sy} {F:List (List Int)} {Z:List Int},jR T N R NL Ls (e::S) X F Z->Ls.getD e bG (r,n)->
 ∃(q:Nat) (S2:List Nat) (X2:List Sy) (F1 F2:List (List Int)) (Z1 Z2:List Int),(e::S).drop n=q::S2/\F=F1++F2/\F1.length=n/\Z=Z2++Z1/\n<=(aJ R r).length/\jm (jf R) ((aJ R r).take n) F1.reverse.flatten Z1/\jR T N R NL Ls (q::S2) X2 F2 Z2/\Ls.getD q bG (r,0):=by
 intro n
 induction n with
 |zero=>
  intro e S X F Z h hi;exact⟨e,S,X,[],F,[],Z,rfl,rfl,rfl,by simp,Nat.zero_le _,⟨rfl,rfl⟩,h,hi⟩
 |succ n ih=>
  intro e S X F Z h hi;cases h with
  |nil=>
   rw[lr.zero]at hi;have:=Wn hi;simp at this
  |push h hs hg he h1=>
   rename_i S X F Z q s f z;rw[he]at hi;obtain⟨i,hq,⟨s',hs',hx⟩,hie⟩:=Wn hi
   have hi':i=(r,n):=by
    obtain⟨a,b⟩:=i;simp only[Prod.mk.injEq]at hie;rw[hie.1,Nat.add_right_cancel hie.2]
   subst hi';have hrr:=jR.rule lr h _ _ rfl _ hq;have hok:=FN lr.fine hrr s' (List.mem_of_getElem? hs');have h0:=Wm hs;have hse:s'=s:=aez hok hs (by rw[hx];omega);subst hse
   have hlt:n<(aJ R r).length:=by
    rcases Nat.lt_or_ge n (aJ R r).length with h|h
    ·exact h
    ·rw[List.getElem?_eq_none h]at hs';cases hs'
   obtain⟨q2,S2,X2,F1,F2,Z1,Z2,a1,a2,a3,a4,_,a5,a6,a7⟩:=ih h hq;refine⟨q2,S2,X2,f::F1,F2,Z1++z,Z2,by simpa using a1,by rw[a2];rfl,by simp[a3],by rw[a4,List.append_assoc],hlt,?_,a6,a7⟩
   have ht:(aJ R r).take (n+1)=(aJ R r).take n++[s']:=by
    rw[List.take_succ_eq_append_getElem hlt];rw[List.getElem?_eq_getElem hlt]at hs';rw[Option.some.inj hs']
   rw[ht];have hfl:(f::F1).reverse.flatten=F1.reverse.flatten++f:=by simp
   rw[hfl];exact aeK a5 h1
theorem jR.awaits(lr:lG T N R NL Ls){q:Nat}{S:List Nat}{X:List Sy}{F:List (List Int)}{Z:List Int}(h:jR T N R NL Ls (q::S) X F Z){r:Nat}(hi:Ls.getD q bG (r,0)):
 (r=R.length/\S=[]/\X=[]/\F=[]/\Z=[]/\q=0)\/(r<R.length/\∃i,Ls.getD q bG i/\i.1<=R.length/\(aJ R i.1)[i.2]?=some (false,(R.getD r (0,[])).1)):=by
 cases h with
 |nil=>
  have hz:=lr.zero;rw[hz]at hi;rcases Wo hi with h1|⟨h1,i,h2,h3⟩
  ·simp only[Prod.mk.injEq]at h1
   exact .inl ⟨h1.1,rfl,rfl,rfl,rfl,rfl⟩
  ·refine .inr ⟨h1,i,by rw[hz];exact h2,JU (fun i h=>by rw[h];exact Nat.le_refl _) i h2,h3⟩
 |push h hs hg he h1=>
  rw[he]at hi;rcases Wo hi with⟨j,_,_,h2⟩|⟨h2,i,h3,h4⟩
  ·simp at h2
  ·refine .inr ⟨h2,i,by rw[he];exact h3,JU (fun i h'=> ?_) i h3,h4⟩
   obtain⟨j,h5,_,rfl⟩:=h';exact jR.rule lr h _ _ rfl j h5
theorem aeL{rJ:List Sy->Nat->Bool}{mF:List Sy->Bool}{k t:Nat}{i:It}(h:lC T R rJ mF NL Ls k i t)(hi:i.1=R.length):t=T:=by
 induction h with
 |start=>rfl
 |on _ _ _ ih=>exact ih hi
 |begins _ _ _ h2 _ _ _=>simp only at hi;omega
 |nothing _ _ h2 _ _ _=>simp only at hi;omega
structure nE(T N:Nat)(R:List Ru)(NL:List (List Int))(Ls:List aX)(tok:List Int)(c:PC):Prop where
 ex:∃S X F,c.S=S.reverse/\c.F=F.reverse/\jR T N R NL Ls S X F (tok.take c.pos)
 pos:c.pos<=tok.length
theorem Wt:nE T N R NL Ls tok ⟨[0],[],0,0⟩:=⟨⟨[0],[],[],rfl,rfl,by simpa using jR.nil⟩,Nat.zero_le _⟩
theorem nE.top{c:PC}{S:List Nat}{q:Nat}(h:c.S=(q::S).reverse):ve c=q:=by
 unfold ve;rw[h];simp[List.getD]
open Classical in
theorem OH{k t:Nat}{q:Int}(h:q∈(cellP T N R NL Ls k t).2.1):∃m:Nat,q=m/\m<R.length/\tu T N R NL Ls k t m:=by
 unfold cellP at h;simp only[List.mem_map,List.mem_filter,List.mem_range,decide_eq_true_eq]at h;obtain⟨m,⟨h1,h2⟩,rfl⟩:=h;exact⟨m,rfl,h1,h2⟩
theorem nE.fin(lr:lG T N R NL Ls)(je:∀t∈tok,0<=t/\t<(T:Int)){c:PC}(h:nE T N R NL Ls tok c){d:List Int}(hs:jd T R (cellP T N R NL Ls) (ig T NL) tok c= .fin d):jf R 0 d tok/\c.F=[d]:=by
 obtain⟨⟨S,X,F,h1,h2,h3⟩,hp⟩:=h;cases S with
 |nil=>cases h3
 |cons e S=>
 unfold jd at hs;rw[nE.top h1]at hs;unfold nT at hs;split at hs
 ·rename_i hend
  have hdn:tu T N R NL Ls e (gL T tok c.pos) R.length:=by
   unfold cellP at hend;simpa using hend
  have hr:aJ R R.length=[(false,0)]:=by simp[aJ]
  have hd1:=hdn.1;rw[hr]at hd1;obtain⟨q,S2,X2,F1,F2,Z1,Z2,a1,a2,a3,a4,_,a5,a6,a7⟩:=h3.back lr 1 hd1;rcases a6.awaits lr a7 with⟨_,_,_,rfl,rfl,_⟩|⟨hlt,_⟩
  ·simp only[List.append_nil,List.nil_append]at a2 a4
   subst a2;obtain⟨f,rfl⟩:=List.length_eq_one_iff.1 a3;rw[hr]at a5;simp only[List.take_succ_cons,List.take_zero,List.reverse_singleton,List.flatten_cons,List.flatten_nil,List.append_nil]at a5;obtain⟨d1,d2,Y1,Y2,b1,b2,b3,rfl,rfl⟩:=a5;simp only[List.append_nil]at b1 b2;subst b1;subst b2;have ht:=aeL hdn.2 rfl
   have hpl:tok.length<=c.pos:=by
    rcases Nat.lt_or_ge c.pos tok.length with h|h
    ·exfalso
     unfold gL at ht;rw[if_pos h]at ht;have e1:tok.getD c.pos 0=tok[c.pos]:=by simp[List.getD,h]
     have:=je tok[c.pos] (List.getElem_mem h);rw[e1]at ht;omega
    ·exact h
   rw[List.take_of_length_le hpl]at a4;rw[h2]at hs;simp only[List.reverse_singleton]at hs;injection hs with hs;simp only[List.getD,List.getElem?_cons_zero,Option.getD_some]at hs;rw[<-hs,a4,h2];exact⟨b3,rfl⟩
  ·exact absurd hlt (Nat.lt_irrefl _)
 ·split at hs
  ·cases hs
  ·split at hs<;>cases hs
theorem nE.go(lr:lG T N R NL Ls)(je:∀t∈tok,0<=t/\t<(T:Int)){c c':PC}(h:nE T N R NL Ls tok c)(hs:jd T R (cellP T N R NL Ls) (ig T NL) tok c= .go c'):nE T N R NL Ls tok c':=by
 obtain⟨⟨S,X,F,h1,h2,h3⟩,hp⟩:=h;cases S with
 |nil=>cases h3
 |cons e S=>
 have he:=h3.lt lr;unfold jd at hs;rw[nE.top h1]at hs;unfold nT at hs;split at hs
 ·cases hs
 ·split at hs
  ·rename_i hsh
   injection hs with hs
   have qb:gL T tok c.pos<T:=by
    rcases Nat.lt_or_ge (gL T tok c.pos) T with h|h
    ·exact h
    ·exfalso
     unfold cellP at hsh;simp only[show ¬gL T tok c.pos<T by omega,if_false]at hsh;omega
   have hpl:c.pos<tok.length:=by
    rcases Nat.lt_or_ge c.pos tok.length with h|h
    ·exact h
    ·exfalso
     unfold gL at qb;rw[if_neg (by omega)]at qb;omega
   have hc1:(cellP T N R NL Ls e (gL T tok c.pos)).1=(NL.getD e []).getD (gL T tok c.pos) 0:=by unfold cellP;simp only[qb,if_true]
   rw[hc1]at hs hsh;have hgo:=lr.go e he (gL T tok c.pos) (by omega)
   have hex:∃i,Ls.getD e bG i/\jN T R i (gL T tok c.pos):=Classical.byContradiction fun hn=>by
    have:=hgo.none hn;omega
   obtain⟨n,g1,g2,g3⟩:=hgo.some hex;obtain⟨i,hi,s,hs1,hs2⟩:=hex;have hok:=FN lr.fine (jR.rule lr h3 _ _ rfl i hi) s (List.mem_of_getElem? hs1)
   have hte:((gL T tok c.pos:Nat):Int)=tok.getD c.pos 0:=by
    unfold gL;rw[if_pos hpl];have e1:tok.getD c.pos 0=tok[c.pos]:=by simp[List.getD,hpl]
    have:=je tok[c.pos] (List.getElem_mem hpl);rw[e1];omega
   have hst:s=(true,tok.getD c.pos 0):=by
    obtain⟨b,v⟩:=s;cases b with
    |true=>simp only[dB,if_true]at hs2;rw[hs2,hte]
    |false=>
     simp only[dB,rP,Bool.false_eq_true,if_false]at hs2 hok;omega
   subst hst;have Wu:(dB T (true,tok.getD c.pos 0)).toNat=gL T tok c.pos:=by rw[hs2];simp
   rw[g1]at hs;subst hs;refine⟨⟨n::e::S,(true,tok.getD c.pos 0)::X,[]::F,by simp[h1],by simp[h2],?_⟩,hpl⟩;have:=jR.push h3 hok g2 (by rw[Wu];exact g3) (f:=[]) (z:=[tok.getD c.pos 0]) (.inl ⟨rfl,rfl,rfl⟩)
   have e2:tok.take (c.pos+1)=tok.take c.pos++[tok.getD c.pos 0]:=by
    rw[List.take_succ_eq_append_getElem hpl];simp[List.getD,hpl]
   simp only;rw[e2];exact this
  ·split at hs
   ·cases hs
   ·rename_i q0 rest hrl
    injection hs with hs;obtain⟨m,rfl,hm,hdn⟩:=OH (q:=q0) (by rw[hrl];simp);have hd1:=hdn.1;obtain⟨q,S2,X2,F1,F2,Z1,Z2,a1,a2,a3,a4,_,a5,a6,a7⟩:=h3.back lr _ hd1;rw[List.take_length,JS hm]at a5;have aeM:=Ku hm a5;rcases a6.awaits lr a7 with⟨h0,_⟩|⟨_,i,hi,hir,hin⟩
    ·omega
    ·have hq:=a6.lt lr
     obtain⟨g,g1,g2,g3,_⟩:=lr.goes hq hi hir hin;have hok:=FN lr.fine hir _ (List.mem_of_getElem? hin);have JA:=h3.lens;have hfl:F.length=F1.length+F2.length:=by rw[a2];simp
     have aeN:(R.getD m (0,[])).2.length=F1.length:=by rw[a3,JS hm]
     have hSd:e::S=(e::S).take F1.length++(q::S2):=by
      rw[a3,<-a1,List.take_append_drop]
     have hl2:=a6.lens;unfold Cu at hs;simp only[Int.toNat_natCast]at hs;have hk:c.F.length-(R.getD m (0,[])).2.length=F2.length:=by rw[h2,List.length_reverse,aeN,hfl];omega
     rw[hk]at hs
     have hrev:c.S=(q::S2).reverse++((e::S).take F1.length).reverse:=by
      rw[h1];conv=>lhs;rw[hSd]
      rw[List.reverse_append]
     have Wv:c.F=F2.reverse++F1.reverse:=by rw[h2,a2,List.reverse_append]
     have hlq:(q::S2).reverse.length=F2.length+1:=by rw[List.length_reverse];exact hl2.1
     have t1:c.S.take (F2.length+1)=(q::S2).reverse:=by rw[hrev,<-hlq,List.take_left]
     have t2:c.S.getD F2.length 0=q:=by
      rw[hrev]
      have OI:S2.reverse.length=F2.length:=by
       have:=hl2.1;simp only[List.length_cons,List.length_reverse]at this⊢;omega
      simp only[List.reverse_cons,List.append_assoc];rw[<-OI];simp[List.getD]
     have t3:(ig T NL q (R.getD m (0,[])).1.toNat).toNat=g:=by
      unfold ig;have hg:=g1;unfold yj at hg;have h0:0<=(R.getD m (0,[])).1:=(lr.fine.left (R.getD m (0,[])) (by simp[List.getD,hm])).1;have e1:(dB T (false,(R.getD m (0,[])).1)).toNat=T+(R.getD m (0,[])).1.toNat:=by simp only[dB,Bool.false_eq_true,if_false];omega
      rw[e1]at hg;rw[hg];simp
     have t4:c.F.take F2.length=F2.reverse:=by rw[Wv,<-List.length_reverse,List.take_left]
     have t5:c.F.drop F2.length=F1.reverse:=by rw[Wv,<-List.length_reverse,List.drop_left]
     rw[t1,t2,t3,t4,t5]at hs;subst hs;refine⟨⟨g::q::S2,(false,(R.getD m (0,[])).1)::X2,((m:Int)::F1.reverse.flatten)::F2,by simp,by simp,?_⟩,hp⟩;simp only;rw[a4];exact jR.push a6 hok g2 g3 (.inr ⟨rfl,aeM⟩)
end
inductive OJ where
 |done (d:List Int)
 |none (n:Nat)
 |size
def mJ(T:Nat)(R:List Ru)(ce:Nat->Nat->Ce)(go:Nat->Nat->Int)(tok:List Int):Nat->PC->OJ
 |0,_=> .size
 |f+1,c=>if c.many<=400 then (match jd T R ce go tok c with| .go c'=>mJ T R ce go tok f c'| .fin d=> .done d| .no n=> .none n) else .size
def OM:PC:=⟨[0],[],0,0⟩
noncomputable def mK(T N:Nat)(R:List Ru)(NL:List (List Int))(Ls:List aX)(tok:List Int):OJ:=mJ T R (cellP T N R NL Ls) (ig T NL) tok (tok.length+402) OM
section
variable{T N:Nat}{R:List Ru}{NL:List (List Int)}{Ls:List aX}{tok:List Int}{ce:Nat->Nat->Ce}{go:Nat->Nat->Int}
theorem OP{c c':PC}(h:jd T R ce go tok c= .go c'):c'.pos+c'.many=c.pos+c.many+1/\c.many<=c'.many/\c.pos<=c'.pos:=by
 unfold jd nT at h;split at h
 ·cases h
 ·split at h
  ·injection h with h;subst h;simp only;omega
  ·split at h
   ·cases h
   ·injection h with h;subst h;unfold Cu;simp only;omega
theorem JV{c c':PC}(h:jd T R ce go tok c= .go c')(hm:c.many<=400)(f:Nat):mJ T R ce go tok (f+1) c=mJ T R ce go tok f c':=by
 rw[mJ,if_pos hm];simp only[h]
theorem aeO{c c':PC}(h:Runs T R ce go tok c c'):c.many<=c'.many/\c.pos<=c'.pos:=by
 induction h with
 |refl=>exact⟨Nat.le_refl _,Nat.le_refl _⟩
 |step h _ ih=>have:=OP h;omega
theorem aeP{c c':PC}(h:Runs T R ce go tok c c'):c'.many<=400->∀f,mJ T R ce go tok (f+(c'.pos+c'.many-(c.pos+c.many))) c=mJ T R ce go tok f c':=by
 induction h with
 |refl=>intro _ f;simp
 |step h k ih=>
  intro hm f;rename_i a b c;have h1:=OP h;have h2:=aeO k;have e:f+(c.pos+c.many-(a.pos+a.many))=f+(c.pos+c.many-(b.pos+b.many))+1:=by omega
  rw[e,JV h (by omega),ih hm f]
theorem aeQ{c c':PC}(h:Runs T R ce go tok c c')(hb:400<c'.many):∀f,mJ T R ce go tok f c= .size:=by
 induction h with
 |refl=>
  intro f;cases f with
  |zero=>rfl
  |succ f=>rw[mJ,if_neg (by omega)]
 |step h k ih=>
  intro f;rename_i a b c;cases f with
  |zero=>rfl
  |succ f=>
   by_cases hm:a.many<=400
   ·rw[JV h hm];exact ih hb f
   ·rw[mJ,if_neg hm]
def Sum(c:PC):Prop:=(c.F.map List.length).sum=c.many
theorem aeR(L:List (List Int)):L.flatten.length=(L.map List.length).sum:=by
 induction L with
 |nil=>rfl
 |cons a L ih=>simp
theorem Ww{c c':PC}(h:jd T R ce go tok c= .go c')(hs:Sum c):Sum c':=by
 unfold Sum at hs⊢;unfold jd nT at h;split at h
 ·cases h
 ·split at h
  ·injection h with h;subst h;simpa using hs
  ·split at h
   ·cases h
   ·rename_i q _ _
    injection h with h;subst h;unfold Cu;simp only[List.map_append,List.map_cons,List.map_nil,List.sum_append,List.sum_cons,List.sum_nil,List.length_cons,aeR]
    have e:(c.F.map List.length).sum=((c.F.take (c.F.length-(R.getD q.toNat (0,[])).2.length)).map List.length).sum+((c.F.drop (c.F.length-(R.getD q.toNat (0,[])).2.length)).map List.length).sum:=by
     rw[<-List.sum_append,<-List.map_append,List.take_append_drop]
    omega
theorem aeS(lr:lG T N R NL Ls)(je:∀t∈tok,0<=t/\t<(T:Int)):∀(f:Nat) (c:PC),nE T N R NL Ls tok c->Sum c->
 (∀d,mJ T R (cellP T N R NL Ls) (ig T NL) tok f c= .done d->jf R 0 d tok/\d.length<=400)/\∀n,mJ T R (cellP T N R NL Ls) (ig T NL) tok f c= .none n->n<=tok.length:=by
 intro f
 induction f with
 |zero=>intro c _ _;exact⟨fun d h=>(by cases h),fun n h=>(by cases h)⟩
 |succ f ih=>
  intro c hP hS;rw[mJ];by_cases hm:c.many<=400
  ·rw[if_pos hm]
   cases hst:jd T R (cellP T N R NL Ls) (ig T NL) tok c with
   |go c'=>exact ih c' (hP.go lr je hst) (Ww hst hS)
   |fin d=>
    obtain⟨h1,h2⟩:=hP.fin lr je hst;refine⟨fun d' h=> ?_,fun n h=>by cases h⟩;injection h with h;subst h;unfold Sum at hS;rw[h2]at hS;simp only[List.map_cons,List.map_nil,List.sum_cons,List.sum_nil]at hS;exact⟨h1,by omega⟩
   |no n=>
    refine⟨fun d' h=>(by cases h),fun n' h=> ?_⟩;injection h with h;subst h;unfold jd nT at hst;split at hst
    ·cases hst
    ·split at hst
     ·cases hst
     ·split at hst
      ·injection hst with hst;rw[<-hst];exact hP.pos
      ·cases hst
  ·rw[if_neg hm]
   exact⟨fun d h=>(by cases h),fun n h=>(by cases h)⟩
theorem Wx(lr:lG T N R NL Ls)(hone:∀k,k<Ls.length->∀t,t<=T->mG (cellP T N R NL Ls k t)=true)(je:∀t∈tok,0<=t/\t<(T:Int)){d:List Int}(h:jf R 0 d tok):
 (d.length<=400->mK T N R NL Ls tok= .done d)/\(400<d.length->mK T N R NL Ls tok= .size):=by
 obtain⟨g,h1,h2⟩:=aeJ lr hone je h;refine⟨fun hl=> ?_,fun hl=>aeQ h1 hl _⟩;unfold mK;have:=aeP h1 hl (402-d.length);simp only[Nat.add_zero,Nat.sub_zero]at this;have e:402-d.length+(tok.length+d.length)=tok.length+402:=by omega
 rw[e]at this;unfold OM;rw[this,show 402-d.length=(401-d.length)+1 by omega,mJ,if_pos hl];simp only[h2]
theorem Wz(lr:lG T N R NL Ls)(hone:∀k,k<Ls.length->∀t,t<=T->mG (cellP T N R NL Ls k t)=true)(je:∀t∈tok,0<=t/\t<(T:Int)):
 (∀d,mK T N R NL Ls tok= .done d->jf R 0 d tok/\d.length<=400)/\∀n,mK T N R NL Ls tok= .none n->n<=tok.length/\¬wM R 0 tok:=by
 obtain⟨h1,h2⟩:=aeS lr je (tok.length+402) OM Wt rfl;refine⟨h1,fun n hn=>⟨h2 n hn,fun hd=> ?_⟩⟩;obtain⟨d,hd⟩:=Aj.1 hd;obtain⟨h3,h4⟩:=Wx lr hone je hd;rcases Nat.lt_or_ge 400 d.length with hl|hl
 ·rw[h4 hl]at hn;cases hn
 ·rw[h3 hl]at hn;cases hn
end
end Go.Proofs.YtpkmpkphfflpjaaGreat
