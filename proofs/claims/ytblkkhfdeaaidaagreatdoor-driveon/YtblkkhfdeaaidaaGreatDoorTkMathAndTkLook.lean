import Derived.Test.YtblkkhfdeaaidaaGreatDoorLooksMathAndTabMath
import Derived.Test.YtblkkhfdeaaidaaGreatDoorChartMathAndMapMem
namespace Go.Proofs.YtblkkhfdeaaidaaGreatDoor
open Classical
theorem Rh{α:Type}{lt:α->α->Prop}(tr:∀a b c,lt a b->lt b c->lt a c)(ir:∀a,¬lt a a){A B:List α}(hA:A.Pairwise lt)(hB:B.Pairwise lt)(h:∀x,x∈A↔x∈B):A=B:=by
 induction A generalizing B with
 |nil=>
  cases B with
  |nil=>rfl
  |cons b B=>exact absurd ((h b).2 (by simp)) (by simp)
 |cons a A ih=>
  cases B with
  |nil=>exact absurd ((h a).1 (by simp)) (by simp)
  |cons b B=>
   rw[List.pairwise_cons]at hA hB
   have hab:a=b:=by
    rcases List.mem_cons.1 ((h a).1 (by simp)) with e|e
    ·exact e
    ·rcases List.mem_cons.1 ((h b).2 (by simp)) with e'|e'
     ·exact e'.symm
     ·exact absurd (tr _ _ _ (hA.1 b e') (hB.1 a e)) (ir a)
   subst hab;rw[ih hA.2 hB.2 fun x=>⟨fun hx=> ?_,fun hx=> ?_⟩]
   ·rcases List.mem_cons.1 ((h x).1 (by simp[hx])) with e|e
    ·subst e;exact absurd (hA.1 x hx) (ir x)
    ·exact e
   ·rcases List.mem_cons.1 ((h x).2 (by simp[hx])) with e|e
    ·subst e;exact absurd (hB.1 x hx) (ir x)
    ·exact e
def iq(a b:It):Prop:=a.1<b.1\/(a.1=b.1/\a.2<b.2)
theorem Ri(a b c:It)(h:iq a b)(k:iq b c):iq a c:=by unfold iq at*;omega
theorem KL(a:It):¬iq a a:=by unfold iq;omega
theorem Rj{L:List It}(h:L.Pairwise iq):L.Nodup:=h.imp fun {a b} h e=>by subst e;exact KL a h
structure iQ(R:List Ru)(OL:List (List It))(Ls:List aI):Prop where
 len:OL.length=Ls.length
 jo:∀i,i<OL.length->tK (OL.getD i []) (Ls.getD i bC)
 Du:∀i,i<OL.length->(OL.getD i []).Pairwise iq
 dist:QO Ls
 ok:∀i,i<OL.length->∀t∈OL.getD i [],mH R t
section
variable{T N:Nat}{R:List Ru}{OL:List (List It)}{Ls:List aI}{k x:Nat}
theorem iQ.push(h:iQ R OL Ls){C:List It}{S:aI}(hC:tK C S)(hs:C.Pairwise iq)(hno:∀n,n<Ls.length->Ls.getD n bC≠S)(hok:∀t∈C,mH R t):iQ R (OL++[C]) (Ls++[S]):=by
 have hl:=h.len
 have Dv:∀i,i<(OL++[C]).length->(i<OL.length/\(OL++[C]).getD i []=OL.getD i []/\(Ls++[S]).getD i bC=Ls.getD i bC)\/(i=OL.length/\(OL++[C]).getD i []=C/\(Ls++[S]).getD i bC=S):=fun i hi=>by
  simp only[List.length_append,List.length_cons,List.length_nil]at hi;rcases Nat.lt_succ_iff_lt_or_eq.1 hi with hi|hi
  ·exact .inl ⟨hi,QU hi,QU (by omega)⟩
  ·exact .inr ⟨hi,QV hi,QV (by omega)⟩
 refine⟨by simp[hl],fun i hi=> ?_,fun i hi=> ?_,fun i j hi hj e=> ?_,fun i hi=> ?_⟩
 ·rcases Dv i hi with⟨h1,h2,h3⟩|⟨h1,h2,h3⟩
  ·rw[h2,h3];exact h.jo i h1
  ·rw[h2,h3];exact hC
 ·rcases Dv i hi with⟨h1,h2,_⟩|⟨_,h2,_⟩
  ·rw[h2];exact h.Du i h1
  ·rw[h2];exact hs
 ·have hi':i<(OL++[C]).length:=by simp only[List.length_append,List.length_cons,List.length_nil]at hi⊢;omega
  have hj':j<(OL++[C]).length:=by simp only[List.length_append,List.length_cons,List.length_nil]at hj⊢;omega
  rcases Dv i hi' with⟨h1,_,h3⟩|⟨h1,_,h3⟩<;>rcases Dv j hj' with⟨k1,_,k3⟩|⟨k1,_,k3⟩
  ·rw[h3,k3]at e;exact h.dist i j (by omega) (by omega) e
  ·rw[h3,k3]at e;exact absurd e (hno i (by omega))
  ·rw[h3,k3]at e;exact absurd e.symm (hno j (by omega))
  ·omega
 ·rcases Dv i hi with⟨h1,h2,_⟩|⟨_,h2,_⟩
  ·rw[h2];exact h.ok i h1
  ·rw[h2];exact hok
theorem aad(R:List Ru):iQ R [] []:=⟨rfl,fun _ hi=>absurd hi (Nat.not_lt_zero _),fun _ hi=>absurd hi (Nat.not_lt_zero _),fun _ _ hi=>absurd hi (Nat.not_lt_zero _),fun _ hi=>absurd hi (Nat.not_lt_zero _)⟩
theorem aae{C:List It}(hs:C.Pairwise iq)(hC:∀i,i∈C↔Cl R (· ∈[(R.length,0)]) i):iQ R [C] [Cl R fun i=>i=(R.length,0)]:=by
 have e:(fun i:It=>i∈[(R.length,0)])=fun i=>i=(R.length,0):=funext fun i=>by simp
 rw[e]at hC;exact(aad R).push (C:=C) ⟨Rj hs,hC⟩ hs (fun n hn=>absurd hn (Nat.not_lt_zero _)) (fun t ht=>KC (S:=fun i=>i=(R.length,0)) (fun i hi=>by rw[hi];exact⟨Nat.le_refl _,Nat.zero_le _⟩) ((hC t).1 ht))
theorem iQ.same(h:iQ R OL Ls){n:Nat}(hn:n<OL.length){C:List It}{S:aI}(hC:tK C S)(hs:C.Pairwise iq):OL.getD n []=C↔Ls.getD n bC=S:=by
 constructor
 ·intro e
  have:=h.jo n hn;rw[e]at this;exact this.eq hC
 ·intro e
  have:=h.jo n hn;rw[e]at this;exact Rh Ri KL (h.Du n hn) hs fun i=>(this.mem i).trans (hC.mem i).symm
def Dw(OL:List (List It))(C:List It)(n:Nat)(Dx:List (List It)):Prop:=
 (n<OL.length/\OL.getD n []=C/\Dx=OL)\/((∀j,j<OL.length->OL.getD j []≠C)/\n=OL.length/\Dx=OL++[C])
theorem iQ.visit(h:iQ R OL Ls)(hk:k<OL.length)(hne:bY T R (OL.getD k []) x (OL.getD k []).length≠[]){C:List It}(hs:C.Pairwise iq)(hC:∀i,i∈C↔Cl R (· ∈bY T R (OL.getD k []) x (OL.getD k []).length) i)
 {n:Nat} {Dx:List (List It)} (ht:Dw OL C n Dx):(Proofs.YtblkkhfdeaaidaaGreatDoor.visit T R Ls k x).1=n/\iQ R Dx (Proofs.YtblkkhfdeaaidaaGreatDoor.visit T R Ls k x).2:=by
 have hrep:=ZH (h.jo k hk) (Rj hs) hC;have hex:∃i,Ls.getD k bC i/\iO T R i x:=Classical.byContradiction fun hno=>hne ((QT (h.jo k hk)).2 hno);rcases ht with⟨h1,h2,rfl⟩|⟨h1,rfl,rfl⟩
 ·rw[ZB h.dist hex (by rw[<-h.len];exact h1) ((h.same h1 hrep hs).1 h2)]
  exact⟨rfl,h⟩
 ·have hno:∀n,n<Ls.length->Ls.getD n bC≠nT T R (Ls.getD k bC) x:=fun n hnl e=>
   h1 n (by rw[h.len];exact hnl) ((h.same (by rw[h.len];exact hnl) hrep hs).2 e)
  have aaf:∀i,Ar T R (Ls.getD k bC) x i->mH R i:=ZK fun i hi=>h.ok k hk i (((h.jo k hk).mem i).2 hi);rw[ZE hex hno];exact⟨by rw[h.len],h.push hrep hs hno (fun t ht=>KC aaf ((hrep.mem t).1 ht))⟩
theorem iQ.aag(h:iQ R OL Ls)(hk:k<OL.length)(he:bY T R (OL.getD k []) x (OL.getD k []).length=[]):Proofs.YtblkkhfdeaaidaaGreatDoor.visit T R Ls k x=(-1,Ls):=
 Kz ((QT (h.jo k hk)).1 he)
theorem iQ.Rk(h:iQ R OL Ls)(hk:k<OL.length){j:Nat}:∀i∈bY T R (OL.getD k []) x j,mH R i/\i.2≠0:=fun i hi=>by
 unfold bY at hi;obtain⟨b,hb,rfl⟩:=List.mem_map.1 hi;rw[List.mem_filter]at hb;have hbo:=h.ok k hk b (List.mem_of_mem_take hb.1);obtain⟨s,h2,_⟩:iO T R b x:=by simpa using hb.2
 have:=(List.getElem?_eq_some_iff.1 h2).1;exact⟨⟨hbo.1,by simp only;omega⟩,by simp⟩
end
def bR(T x:Nat):Sy:=if x<T then (true,(x:Int)) else (false,((x-T:Nat):Int))
theorem Dy(T x:Nat):dX T (bR T x)=x:=by
 unfold bR dX;split
 ·simp
 ·simp;omega
theorem Gi{T x y:Nat}(h:bR T x=bR T y):x=y:=by
 have h1:=Dy T x;rw[h,Dy]at h1;omega
theorem KM{T N:Nat}{s:Sy}(h1:s.1=true->0<=s.2/\s.2<(T:Int))(h2:s.1=false->0<=s.2/\s.2<(N:Int)):bR T (dX T s).toNat=s/\(dX T s).toNat<T+N:=by
 obtain⟨b,v⟩:=s;cases b with
 |true=>
  have:=h1 rfl;simp only at this;simp only[dX,bR,if_true];rw[if_pos (by omega)];refine⟨?_,by omega⟩
  congr 1
  omega
 |false=>
  have:=h2 rfl;simp only at this;simp only[dX,bR,Bool.false_eq_true,if_false];rw[if_neg (by omega)];refine⟨?_,by omega⟩
  congr 1
  omega
theorem aah{T N:Nat}{R:List Ru}{i:It}{x:Nat}(hR:∀s∈aH R i.1,(s.1=true->0<=s.2/\s.2<(T:Int))/\(s.1=false->0<=s.2/\s.2<(N:Int))):iO T R i x↔(aH R i.1)[i.2]?=some (bR T x):=by
 unfold iO;constructor
 ·rintro ⟨s,h1,h2⟩
  obtain⟨e,_⟩:=KM (hR s (List.mem_of_getElem? h1)).1 (hR s (List.mem_of_getElem? h1)).2;rw[h1,<-e,h2];simp
 ·intro h
  exact⟨_,h,Dy T x⟩
abbrev Wy:=Nat×Sy
noncomputable def aS(T:Nat)(NL:List (List Int)):Wy->Option Value:=fun p=>
 if ∃x,x<(NL.getD p.1 []).length/\p.2=bR T x/\0<=(NL.getD p.1 []).getD x 0 then some (.int .i64 ((NL.getD p.1 []).getD (dX T p.2).toNat 0)) else none
section
variable{T:Nat}{NL:List (List Int)}
theorem aai(T:Nat):aS T []=fun _=>none:=by
 funext p
 unfold aS;rw[if_neg];rintro ⟨x,h,_⟩;simp[List.getD]at h
theorem Ay{k x:Nat}(hx:x<(NL.getD k []).length):aS T NL (k,bR T x)=if 0<=(NL.getD k []).getD x 0 then some (.int .i64 ((NL.getD k []).getD x 0)) else none:=by
 unfold aS;simp only[Dy,Int.toNat_natCast];by_cases h:0<=(NL.getD k []).getD x 0
 ·rw[if_pos h,if_pos ⟨x,hx,rfl,h⟩]
 ·rw[if_neg h,if_neg]
  rintro ⟨y,h1,h2,h3⟩;rw[Gi h2]at h;exact h h3
theorem KN{k:Nat}{s:Sy}(hs:∀x,s≠bR T x):aS T NL (k,s)=none:=by
 unfold aS;rw[if_neg];rintro ⟨x,_,h,_⟩;exact hs x h
theorem aaj:aS T (NL++[[]])=aS T NL:=by
 funext p
 unfold aS
 have e:(NL++[[]]).getD p.1 []=NL.getD p.1 []:=by
  by_cases h:p.1<NL.length
  ·simp[List.getD,List.getElem?_append_left h]
  ·rw[List.getD,List.getD,List.getElem?_append_right (by omega),List.getElem?_eq_none (show NL.length<=p.1 by omega)]
   cases h2:p.1-NL.length<;>simp
 rw[e]
theorem Rl{row:List Int}{z:Int}:aS T (NL++[row++[z]])=if 0<=z then eT (aS T (NL++[row])) (NL.length,bR T row.length) (.int .i64 z) else aS T (NL++[row]):=by
 have gk:∀r:List Int,(NL++[r]).getD NL.length []=r:=fun r=>by simp[List.getD]
 have go:∀(r:List Int) (k:Nat),k≠NL.length->(NL++[r]).getD k []=NL.getD k []:=fun r k hk=>by
  by_cases h:k<NL.length
  ·simp[List.getD,List.getElem?_append_left h]
  ·rw[List.getD,List.getD,List.getElem?_append_right (by omega),List.getElem?_eq_none (show NL.length<=k by omega)]
   rw[List.getElem?_eq_none (by simp;omega)]
 have Rm:(row++[z]).getD row.length 0=z:=by simp[List.getD]
 have aak:∀x,x<row.length->(row++[z]).getD x 0=row.getD x 0:=fun x hx=>by simp[List.getD,List.getElem?_append_left hx]
 have other:∀k s,(k,s)≠(NL.length,bR T row.length)->aS T (NL++[row++[z]]) (k,s)=aS T (NL++[row]) (k,s):=fun k s hne=>by
  by_cases hk:k=NL.length
  ·subst hk
   have hs:s≠bR T row.length:=fun e=>hne (by rw[e]);by_cases hex:∃x,s=bR T x
   ·obtain⟨x,rfl⟩:=hex
    have hx:x≠row.length:=fun e=>hs (by rw[e]);by_cases hl:x<row.length
    ·rw[Ay (by rw[gk];simp;omega),Ay (by rw[gk];exact hl),gk,gk,aak x hl]
    ·unfold aS
     rw[if_neg,if_neg]
     ·rintro ⟨y,h1,h2,_⟩
      rw[gk]at h1;have:=Gi h2;omega
     ·rintro ⟨y,h1,h2,_⟩
      rw[gk]at h1;simp only[List.length_append,List.length_cons,List.length_nil]at h1;have:=Gi h2;omega
   ·rw[KN (fun x e=>hex ⟨x,e⟩),KN (fun x e=>hex ⟨x,e⟩)]
  ·unfold aS
   simp only[go _ k hk]
 by_cases hz:0<=z
 ·rw[if_pos hz]
  funext p
  by_cases hp:p=(NL.length,bR T row.length)
  ·subst hp
   rw[Ay (by rw[gk];simp),gk,Rm,if_pos hz];simp[eT]
  ·rw[other p.1 p.2 hp]
   simp[eT,hp]
 ·rw[if_neg hz]
  funext p
  by_cases hp:p=(NL.length,bR T row.length)
  ·subst hp
   rw[Ay (by rw[gk];simp),gk,Rm,if_neg hz];unfold aS;rw[if_neg];rintro ⟨y,h1,h2,_⟩;simp only[gk]at h1;have:=Gi h2;omega
  ·exact other p.1 p.2 hp
end
abbrev aN:=Nat×It
def gL(OL:List (List It))(s:aN):Prop:=s.1<OL.length/\s.2∈OL.getD s.1 []
structure jq(T N:Nat)(R:List Ru)(OL:List (List It))(NL:List (List Int))(Ls:List aI):Prop where
 nU:iQ R OL Ls
 go:∀k,k<OL.length->∀x,x<T+N->(NL.getD k []).length=T+N/\wX T R Ls k x ((NL.getD k []).getD x 0)
 cl:∀k,k<OL.length->wY R (Ls.getD k bC)
 sym:∀r,r<=R.length->∀s∈aH R r,(s.1=true->0<=s.2/\s.2<(T:Int))/\(s.1=false->0<=s.2/\s.2<(N:Int))
 zero:gL OL (0,(R.length,0))
section
variable{T N:Nat}{R:List Ru}{OL:List (List It)}{NL:List (List Int)}{Ls:List aI}{Nu:List Bool}{Fi:List (List Bool)}
theorem jq.item(A:jq T N R OL NL Ls){p:aN}(hp:gL OL p):Ls.getD p.1 bC p.2/\mH R p.2:=⟨((A.nU.jo p.1 hp.1).mem _).1 hp.2,A.nU.ok p.1 hp.1 _ hp.2⟩
theorem jq.on(A:jq T N R OL NL Ls){p:aN}(hp:gL OL p){s:Sy}(hs:(aH R p.2.1)[p.2.2]?=some s):
 (NL.getD p.1 []).getD (dX T s).toNat 0=((toN NL T p.1 s:Nat):Int)/\gL OL (toN NL T p.1 s,(p.2.1,p.2.2+1)):=by
 obtain⟨h2,h3⟩:=A.item hp;have hsy:=A.sym _ h3.1 s (List.mem_of_getElem? hs);obtain⟨e0,hx⟩:=KM hsy.1 hsy.2
 have hcast:((dX T s).toNat:Int)=dX T s:=by
  have:=Dy T (dX T s).toNat;rw[e0]at this;omega
 obtain⟨_,hg⟩:=A.go p.1 hp.1 _ hx;obtain⟨n,e1,e2,e3⟩:=hg.some ⟨_,h2,s,hs,hcast.symm⟩;have et:toN NL T p.1 s=n:=by unfold toN;rw[e1];simp
 rw[et,e1];have hn':n<OL.length:=by rw[A.nU.len];exact e2
 refine⟨rfl,hn',((A.nU.jo n hn').mem _).2 ?_⟩;rw[e3];exact Q5 h2 hs hcast.symm
theorem jq.close(A:jq T N R OL NL Ls){p:aN}(hp:gL OL p){m:Int}(hs:(aH R p.2.1)[p.2.2]?=some (false,m)){n:Nat}(hn:n<R.length)(hL:(R.getD n (0,[])).1=m):gL OL (p.1,(n,0)):=
 ⟨hp.1,((A.nU.jo p.1 hp.1).mem _).2 (ZV (A.cl p.1 hp.1) (A.item hp).1 hs hn hL)⟩
end
def maskN(L:List Bool):Nat->Nat
 |0=>0
 |n+1=>if L.getD n false then maskN L n|||2^n else maskN L n
theorem Rn(L:List Bool)(n t:Nat):(maskN L n).testBit t=(decide (t<n)&&L.getD t false):=by
 induction n with
 |zero=>simp[maskN]
 |succ n ih=>
  unfold maskN;by_cases h:L.getD n false=true
  ·rw[if_pos h,Nat.testBit_or,ih,Nat.testBit_two_pow]
   by_cases e:n=t
   ·subst e;rw[h];simp
   ·have e1:decide (t<n+1)=decide (t<n):=by rw[decide_eq_decide];omega
    rw[e1];simp[e]
  ·rw[if_neg h,ih]
   by_cases e:n=t
   ·subst e
    have:L.getD n false=false:=by simpa using h
    rw[this];simp
   ·have e1:decide (t<n+1)=decide (t<n):=by rw[decide_eq_decide];omega
    rw[e1]
def jX(Fi:List (List Bool))(s:Sy):Nat:=if s.1 then 2^s.2.toNat else maskN (Fi.getD s.2.toNat []) (Fi.getD s.2.toNat []).length
def jr(Nu:List Bool)(Fi:List (List Bool)):Nat->List Sy->Nat×Bool
 |a,[]=>(a,true)
 |a,s::l=>if s.1|| !Nu.getD s.2.toNat false then (a|||jX Fi s,false) else jr Nu Fi (a|||jX Fi s) l
def Dz(T N:Nat)(l:List Sy):Prop:=∀s∈l,(s.1=true->0<=s.2/\s.2<(T:Int))/\(s.1=false->0<=s.2/\s.2<(N:Int))
section
variable{T N:Nat}{Nu:List Bool}{Fi:List (List Bool)}
theorem aal{L:List Bool}(hL:L.length<=T)(t:Nat):(decide (t<L.length)&&L.getD t false)=(decide (t<T)&&L.getD t false):=by
 by_cases h:t<L.length
 ·have:t<T:=by omega
  simp[h,this]
 ·have e:L.getD t false=false:=by simp[List.getD,List.getElem?_eq_none (show L.length<=t by omega)]
  rw[e];simp
theorem Ro(hF:∀n,(Fi.getD n []).length<=T)(t:Nat):∀(l:List Sy) (a:Nat),Dz T N l->(jr Nu Fi a l).1.testBit t=(a.testBit t||o5 Nu Fi T l t)/\(jr Nu Fi a l).2=yO Nu l:=by
 intro l
 induction l with
 |nil=>intro a _;simp[jr,o5,wZ,yO]
 |cons s l ih=>
  intro a hl;have hs:=hl s (by simp);have hl':Dz T N l:=fun x hx=>hl x (List.mem_cons_of_mem _ hx);obtain⟨b,v⟩:=s;cases b with
  |true=>
   have hv:=hs.1 rfl;simp only at hv;simp only[jr,Bool.true_or,if_true,jX,o5,wZ];refine⟨?_,by simp[yO]⟩;rw[Nat.testBit_or,Nat.testBit_two_pow]
   congr 1
   rw[decide_eq_decide];omega
  |false=>
   have Rp:(jX Fi (false,v)).testBit t=(decide (t<T)&&(Fi.getD v.toNat []).getD t false):=by
    simp only[jX,Bool.false_eq_true,if_false];rw[Rn];exact aal (hF _) t
   have vw:o5 Nu Fi T ((false,v)::l) t=((decide (t<T)&&(Fi.getD v.toNat []).getD t false)||(Nu.getD v.toNat false&&o5 Nu Fi T l t)):=by
    simp only[o5,wZ];by_cases h1:(decide (t<T)&&(Fi.getD v.toNat []).getD t false)=true
    ·rw[if_pos h1,h1];simp
    ·rw[if_neg h1]
     have h1':(decide (t<T)&&(Fi.getD v.toNat []).getD t false)=false:=by simpa using h1
     rw[h1'];by_cases h2:Nu.getD v.toNat false=true
     ·rw[if_pos h2,h2];simp
     ·rw[if_neg h2]
      have h2':Nu.getD v.toNat false=false:=by simpa using h2
      rw[h2'];simp
   have Rq:yO Nu ((false,v)::l)=(Nu.getD v.toNat false&&yO Nu l):=by
    show (((false,v)::l).all fun s=> !s.1&&Nu.getD s.2.toNat false)=_;rw[List.all_cons];rfl
   cases hn:Nu.getD v.toNat false with
   |true=>
    have e:jr Nu Fi a ((false,v)::l)=jr Nu Fi (a|||jX Fi (false,v)) l:=by
     rw[jr];simp only;rw[hn];simp
    obtain⟨i1,i2⟩:=ih (a|||jX Fi (false,v)) hl';rw[e,i1,i2,vw,Rq,hn,Nat.testBit_or,Rp];simp[Bool.or_assoc]
   |false=>
    have e:jr Nu Fi a ((false,v)::l)=(a|||jX Fi (false,v),false):=by
     rw[jr];simp only;rw[hn];simp
    rw[e,vw,Rq,hn,Nat.testBit_or,Rp];simp
theorem Rs{t:Nat}:∀{l:List Sy},Dz T N l->o5 Nu Fi T l t=true->t<=T:=by
 intro l
 induction l with
 |nil=>intro _ h;simp[o5,wZ]at h
 |cons s l ih=>
  intro hl h;have hs:=hl s (by simp);obtain⟨b,v⟩:=s;cases b with
  |true=>
   have hv:=hs.1 rfl;simp only at hv;simp only[o5,wZ,decide_eq_true_eq]at h;omega
  |false=>
   simp only[o5,wZ]at h;split at h
   ·rename_i h1
    simp only[Bool.and_eq_true,decide_eq_true_eq]at h1;omega
   ·split at h
    ·exact ih (fun x hx=>hl x (List.mem_cons_of_mem _ hx)) h
    ·cases h
end
def nV(R:List Ru)(m:Int):List Nat:=(List.range R.length).filter fun n=>decide ((R.getD n (0,[])).1=m)
def mV(R:List Ru)(Nu:List Bool)(Fi:List (List Bool))(i:It):Nat×Bool:=jr Nu Fi 0 ((aH R i.1).drop (i.2+1))
def vz(R:List Ru)(Nu:List Bool)(Fi:List (List Bool))(i:It)(h:Nat):Nat:=if (mV R Nu Fi i).2 then (mV R Nu Fi i).1|||h else (mV R Nu Fi i).1
def qD(T:Nat)(R:List Ru)(NL:List (List Int))(Nu:List Bool)(Fi:List (List Bool))(p:aN)(h:Nat):List (aN×Nat):=
 match (aH R p.2.1)[p.2.2]? with
 |none=>[]
 |some s=>((toN NL T p.1 s,(p.2.1,p.2.2+1)),h)::(if s.1 then [] else (nV R s.2).map fun r=>((p.1,(r,0)),vz R Nu Fi p.2 h))
structure LS where
 lk:aN->Nat
 O:List aN
 c:Nat
def eY(g:aN×Nat)(st:LS):LS:=if st.lk g.1|||g.2=st.lk g.1 then st else ⟨fun s=>if s=g.1 then st.lk g.1|||g.2 else st.lk s,st.O++[g.1],st.c+1⟩
def lK(L:List (aN×Nat))(st:LS):LS:=L.foldl (fun st g=>eY g st) st
def nW(T:Nat)(R:List Ru)(NL:List (List Int))(Nu:List Bool)(Fi:List (List Bool))(p:aN)(st:LS):LS:=lK (qD T R NL Nu Fi p (st.lk p)) st
def vB(OL:List (List It)):List aN:=(List.range OL.length).flatMap fun k=>(OL.getD k []).map fun i=>(k,i)
theorem KO{OL:List (List It)}{s:aN}:s∈vB OL↔gL OL s:=by
 unfold vB gL;rw[List.mem_flatMap];constructor
 ·rintro ⟨k,hk,hs⟩
  obtain⟨i,hi,rfl⟩:=List.mem_map.1 hs;exact⟨List.mem_range.1 hk,hi⟩
 ·rintro ⟨h1,h2⟩
  exact⟨s.1,List.mem_range.2 h1,List.mem_map.2 ⟨s.2,h2,rfl⟩⟩
def yP(OL:List (List It))(T:Nat):List (aN×Nat):=(vB OL).flatMap fun s=>(List.range (T+1)).map fun t=>(s,t)
theorem aam{OL:List (List It)}{T:Nat}{s:aN}{t:Nat}(hs:gL OL s)(ht:t<=T):(s,t)∈yP OL T:=by
 unfold yP;rw[List.mem_flatMap];exact⟨s,KO.2 hs,List.mem_map.2 ⟨t,List.mem_range.2 (by omega),rfl⟩⟩
def DC(OL:List (List It))(T:Nat)(lk:aN->Nat):Nat:=((yP OL T).filter fun q=> !(lk q.1).testBit q.2).length
def iR(OL:List (List It))(T:Nat)(st:LS):Nat:=2*DC OL T st.lk+st.O.length+st.c
section
variable{T N:Nat}{R:List Ru}{OL:List (List It)}{NL:List (List Int)}{Ls:List aI}{Nu:List Bool}{Fi:List (List Bool)}
def DF(T:Nat)(R:List Ru)(Nu:List Bool)(Fi:List (List Bool))(NL:List (List Int))(Ls:List aI)(s:aN)(t:Nat):Prop:=t<=T/\Ga T R Nu Fi NL Ls s.1 s.2 t
def OkG(T:Nat)(R:List Ru)(Nu:List Bool)(Fi:List (List Bool))(NL:List (List Int))(Ls:List aI)(OL:List (List It))(g:aN×Nat):Prop:=gL OL g.1/\∀t,g.2.testBit t=true->DF T R Nu Fi NL Ls g.1 t
theorem Rv(A:jq T N R OL NL Ls)(hF:∀n,(Fi.getD n []).length<=T){p:aN}(hp:gL OL p){h:Nat}(hh:∀t,h.testBit t=true->DF T R Nu Fi NL Ls p t):∀g∈qD T R NL Nu Fi p h,OkG T R Nu Fi NL Ls OL g:=by
 intro g hg;unfold qD at hg;cases hs:(aH R p.2.1)[p.2.2]? with
 |none=>rw[hs]at hg;cases hg
 |some s=>
  rw[hs]at hg;simp only[List.mem_cons]at hg;rcases hg with rfl|hg
  ·obtain⟨h1,h2⟩:=A.on hp hs
   exact⟨h2,fun t ht=>⟨(hh t ht).1,qB.on (i:=p.2) (hh t ht).2 hs h1⟩⟩
  ·obtain⟨b,v⟩:=s
   cases b with
   |true=>simp at hg
   |false=>
    simp only[Bool.false_eq_true,if_false]at hg;obtain⟨r,hr,rfl⟩:=List.mem_map.1 hg;unfold nV at hr;rw[List.mem_filter,List.mem_range]at hr;have hr2:(R.getD r (0,[])).1=v:=by simpa using hr.2
    refine⟨A.close hp hs hr.1 hr2,fun t ht=> ?_⟩;have hin:Dz T N ((aH R p.2.1).drop (p.2.2+1)):=fun x hx=>A.sym _ (A.item hp).2.1 x (List.mem_of_mem_drop hx);obtain⟨b1,b2⟩:=Ro (Nu:=Nu) hF t _ 0 hin
    have qC:o5 Nu Fi T ((aH R p.2.1).drop (p.2.2+1)) t=true->DF T R Nu Fi NL Ls (p.1,(r,0)) t:=fun hb=>
     ⟨Rs hin hb,qB.begins (i:=p.2) (by rw[<-A.nU.len];exact hp.1) (A.item hp).1 hs hr.1 hr2 (Rs hin hb) hb⟩
    unfold vz mV at ht;simp only[Nat.zero_testBit,Bool.false_or]at b1;split at ht
    ·rename_i hn
     simp only[Nat.testBit_or,b1,Bool.or_eq_true]at ht;rcases ht with ht|ht
     ·exact qC ht
     ·exact⟨(hh t ht).1,qB.nothing (i:=p.2) (hh t ht).2 hs hr.1 hr2 (by rw[<-b2];exact hn)⟩
    ·simp only[b1]at ht
     exact qC ht
structure xq(T:Nat)(R:List Ru)(OL:List (List It))(NL:List (List Int))(Ls:List aI)(Nu:List Bool)(Fi:List (List Bool))(p:aN)(h:Nat)(dn:List (aN×Nat))(st:LS):Prop where
 snd:∀s t,(st.lk s).testBit t=true->gL OL s/\DF T R Nu Fi NL Ls s t
 opn:∀s∈st.O,gL OL s
 cls:∀s,gL OL s->s≠p->s∈st.O\/∀g∈qD T R NL Nu Fi s (st.lk s),st.lk g.1|||g.2=st.lk g.1
 self:st.lk p=h\/p∈st.O
 yQ:∀g∈dn,st.lk g.1|||g.2=st.lk g.1
structure mW(T:Nat)(R:List Ru)(OL:List (List It))(NL:List (List Int))(Ls:List aI)(Nu:List Bool)(Fi:List (List Bool))(st:LS):Prop where
 snd:∀s t,(st.lk s).testBit t=true->gL OL s/\DF T R Nu Fi NL Ls s t
 opn:∀s∈st.O,gL OL s
 cls:∀s,gL OL s->s∈st.O\/∀g∈qD T R NL Nu Fi s (st.lk s),st.lk g.1|||g.2=st.lk g.1
theorem aan{a m x:Nat}(h:a|||m=a):(a|||x)|||m=a|||x:=by
 rw[Nat.or_assoc,Nat.or_comm x m,<-Nat.or_assoc,h]
theorem xq.give{p:aN}{h:Nat}{dn:List (aN×Nat)}{st:LS}(H:xq T R OL NL Ls Nu Fi p h dn st){g:aN×Nat}(hg:OkG T R Nu Fi NL Ls OL g):xq T R OL NL Ls Nu Fi p h (dn++[g]) (eY g st):=by
 unfold eY;split
 ·rename_i he
  exact⟨H.snd,H.opn,H.cls,H.self,fun g' hg'=>by
   rcases List.mem_append.1 hg' with hg'|hg'
   ·exact H.yQ g' hg'
   ·simp only[List.mem_singleton]at hg';subst hg';exact he⟩
 ·have up:∀(a:aN) (m:Nat),st.lk a|||m=st.lk a->(if a=g.1 then st.lk g.1|||g.2 else st.lk a)|||m=(if a=g.1 then st.lk g.1|||g.2 else st.lk a):=fun a m hm=>by
   by_cases ha:a=g.1
   ·subst ha;rw[if_pos rfl];exact aan hm
   ·rw[if_neg ha];exact hm
  refine⟨fun s t ht=> ?_,fun s hs=> ?_,fun s hs hne=> ?_,?_,fun g' hg'=> ?_⟩
  ·simp only at ht
   by_cases e:s=g.1
   ·subst e
    simp only[if_true,Nat.testBit_or,Bool.or_eq_true]at ht;rcases ht with ht|ht
    ·exact H.snd _ t ht
    ·exact⟨hg.1,hg.2 t ht⟩
   ·rw[if_neg e]at ht
    exact H.snd s t ht
  ·rcases List.mem_append.1 hs with hs|hs
   ·exact H.opn s hs
   ·simp only[List.mem_singleton]at hs;subst hs;exact hg.1
  ·by_cases e:s=g.1
   ·exact .inl (by subst e;simp)
   ·rcases H.cls s hs hne with h1|h1
    ·exact .inl (List.mem_append_left _ h1)
    ·refine .inr fun g' hg'=> ?_
     simp only[if_neg e]at hg';exact up g'.1 g'.2 (h1 g' hg')
  ·rcases H.self with h1|h1
   ·by_cases e:p=g.1
    ·exact .inr (by subst e;simp)
    ·exact .inl (by simp only;rw[if_neg e];exact h1)
   ·exact .inr (List.mem_append_left _ h1)
  ·rcases List.mem_append.1 hg' with hg'|hg'
   ·exact up g'.1 g'.2 (H.yQ g' hg')
   ·simp only[List.mem_singleton]at hg'
    subst hg';simp only[if_true];rw[Nat.or_assoc,Nat.or_self]
theorem xq.gives{p:aN}{h:Nat}:∀(L dn:List (aN×Nat)) (st:LS),xq T R OL NL Ls Nu Fi p h dn st->(∀g∈L,OkG T R Nu Fi NL Ls OL g)->xq T R OL NL Ls Nu Fi p h (dn++L) (lK L st):=by
 intro L
 induction L with
 |nil=>intro dn st H _;simpa [lK] using H
 |cons g L ih=>
  intro dn st H hL;have:=ih (dn++[g]) (eY g st) (H.give (hL g (by simp))) (fun g' hg'=>hL g' (List.mem_cons_of_mem _ hg'));rw[List.append_assoc]at this;exact this
theorem mW.look(A:jq T N R OL NL Ls)(hF:∀n,(Fi.getD n []).length<=T){lk:aN->Nat}{O:List aN}{p:aN}{c:Nat}(H:mW T R OL NL Ls Nu Fi ⟨lk,O++[p],c⟩):mW T R OL NL Ls Nu Fi (nW T R NL Nu Fi p ⟨lk,O,c⟩):=by
 have hp:gL OL p:=H.opn p (by simp)
 have H0:xq T R OL NL Ls Nu Fi p (lk p) [] ⟨lk,O,c⟩:=⟨H.snd,fun s hs=>H.opn s (List.mem_append_left _ hs),fun s hs hne=>by
  rcases H.cls s hs with h1|h1
  ·rcases List.mem_append.1 h1 with h1|h1
   ·exact .inl h1
   ·simp only[List.mem_singleton]at h1;exact absurd h1 hne
  ·exact .inr h1,.inl rfl,fun g hg=>by cases hg⟩
 have H1:=H0.gives _ _ _ (Rv A hF hp fun t ht=>(H.snd p t ht).2);refine⟨H1.snd,H1.opn,fun s hs=> ?_⟩;by_cases e:s=p
 ·subst e
  rcases H1.self with h1|h1
  ·refine .inr fun g hg=> ?_
   have h2:(nW T R NL Nu Fi s ⟨lk,O,c⟩).lk s=lk s:=h1;rw[h2]at hg;exact H1.yQ g (by simpa using hg)
  ·exact .inl h1
 ·exact H1.cls s hs e
theorem mW.give{st:LS}(H:mW T R OL NL Ls Nu Fi st){g:aN×Nat}(hg:OkG T R Nu Fi NL Ls OL g):mW T R OL NL Ls Nu Fi (eY g st):=by
 have key:∀p,xq T R OL NL Ls Nu Fi p (st.lk p) [] st:=fun p=>⟨H.snd,H.opn,fun s hs _=>H.cls s hs,.inl rfl,fun g hg=>by cases hg⟩;have h1:=(key g.1).give hg;refine⟨h1.snd,h1.opn,fun s hs=> ?_⟩;by_cases e:s=g.1
 ·
  unfold eY;split
  ·exact H.cls s hs
  ·exact .inl (by subst e;simp)
 ·exact h1.cls s hs e
theorem aao(OL:List (List It)):mW T R OL NL Ls Nu Fi ⟨fun _=>0,vB OL,0⟩:=
 ⟨fun s t h=>by simp at h,fun s hs=>KO.1 hs,fun s hs=> .inl (KO.2 hs)⟩
theorem aap{g:aN×Nat}{st:LS}{s:aN}{t:Nat}(h:(st.lk s).testBit t=true):((eY g st).lk s).testBit t=true:=by
 unfold eY;split
 ·exact h
 ·simp only
  by_cases e:s=g.1
  ·subst e;rw[if_pos rfl,Nat.testBit_or,h];rfl
  ·rw[if_neg e];exact h
theorem aaq{s:aN}{t:Nat}:∀(L:List (aN×Nat)) (st:LS),(st.lk s).testBit t=true->((lK L st).lk s).testBit t=true:=by
 intro L
 induction L with
 |nil=>intro st h;exact h
 |cons g L ih=>intro st h;exact ih _ (aap h)
theorem Rw{g:aN×Nat}{st:LS}(hg:gL OL g.1/\∀t,g.2.testBit t=true->t<=T):iR OL T (eY g st)<=iR OL T st:=by
 unfold eY;split
 ·exact Nat.le_refl _
 ·rename_i hne
  obtain⟨t,ht⟩:∃t,(st.lk g.1|||g.2).testBit t≠(st.lk g.1).testBit t:=Classical.byContradiction fun hn=>hne (Nat.eq_of_testBit_eq fun t=>Classical.byContradiction fun h=>hn ⟨t,h⟩);rw[Nat.testBit_or]at ht;have h1:(st.lk g.1).testBit t=false:=by cases h:(st.lk g.1).testBit t<;>simp[h]at ht⊢
  have h2:g.2.testBit t=true:=by rw[h1]at ht;cases h:g.2.testBit t<;>simp[h]at ht⊢
  have hlt:DC OL T (fun s=>if s=g.1 then st.lk g.1|||g.2 else st.lk s)<DC OL T st.lk:=by
   unfold DC;refine(filter_lt _ _ (fun q hq=> ?_) (yP OL T)).2 ⟨(g.1,t),aam hg.1 (hg.2 t h2),?_,?_⟩
   ·by_cases e:q.1=g.1
    ·simp only[e,if_true,Nat.testBit_or]at hq
     rw[e];cases h:(st.lk g.1).testBit q.2<;>simp[h]at hq⊢
    ·simp only[if_neg e]at hq;exact hq
   ·simp[h1]
   ·simp[Nat.testBit_or,h2]
  unfold iR;simp only[List.length_append,List.length_cons,List.length_nil];omega
theorem aar:∀(L:List (aN×Nat)) (st:LS),(∀g∈L,gL OL g.1/\∀t,g.2.testBit t=true->t<=T)->iR OL T (lK L st)<=iR OL T st:=by
 intro L
 induction L with
 |nil=>intro st _;exact Nat.le_refl _
 |cons g L ih=>intro st h;exact Nat.le_trans (ih _ fun g' hg'=>h g' (List.mem_cons_of_mem _ hg')) (Rw (h g (by simp)))
theorem aas(A:jq T N R OL NL Ls)(hF:∀n,(Fi.getD n []).length<=T){lk:aN->Nat}{O:List aN}{p:aN}{c:Nat}(H:mW T R OL NL Ls Nu Fi ⟨lk,O++[p],c⟩):iR OL T (nW T R NL Nu Fi p ⟨lk,O,c⟩)<iR OL T ⟨lk,O++[p],c⟩:=by
 have h1:=aar (OL:=OL) (T:=T) (qD T R NL Nu Fi p (lk p)) ⟨lk,O,c⟩ fun g hg=>by
  obtain⟨a,b⟩:=Rv A hF (H.opn p (by simp)) (fun t ht=>(H.snd p t ht).2) g hg;exact⟨a,fun t ht=>(b t ht).1⟩
 have h2:iR OL T ⟨lk,O++[p],c⟩=iR OL T ⟨lk,O,c⟩+1:=by
  unfold iR;simp only[List.length_append,List.length_cons,List.length_nil];omega
 show iR OL T (lK (qD T R NL Nu Fi p (lk p)) ⟨lk,O,c⟩)<_;omega
theorem or_bit{a m t:Nat}(h:a|||m=a)(hm:m.testBit t=true):a.testBit t=true:=by
 rw[<-h,Nat.testBit_or,hm,Bool.or_true]
theorem aat(A:jq T N R OL NL Ls)(hF:∀n,(Fi.getD n []).length<=T){st:LS}(H:mW T R OL NL Ls Nu Fi st)(hO:st.O=[])(h0:(st.lk (0,(R.length,0))).testBit T=true){k:Nat}{i:It}{t:Nat}(hl:Ga T R Nu Fi NL Ls k i t):gL OL (k,i)/\(st.lk (k,i)).testBit t=true:=by
 have cls:∀s,gL OL s->∀g∈qD T R NL Nu Fi s (st.lk s),st.lk g.1|||g.2=st.lk g.1:=fun s hs=>by
  rcases H.cls s hs with h|h
  ·rw[hO]at h;cases h
  ·exact h
 have bits:∀{k:Nat} {i:It},gL OL (k,i)->∀(t:Nat),(mV R Nu Fi i).1.testBit t=o5 Nu Fi T ((aH R i.1).drop (i.2+1)) t/\(mV R Nu Fi i).2=yO Nu ((aH R i.1).drop (i.2+1)):=fun {k i} hi t=>by
  have hin:Dz T N ((aH R i.1).drop (i.2+1)):=fun x hx=>A.sym _ (A.item hi).2.1 x (List.mem_of_mem_drop hx);obtain⟨b1,b2⟩:=Ro (Nu:=Nu) hF t _ 0 hin;simp only[Nat.zero_testBit,Bool.false_or]at b1;exact⟨b1,b2⟩
 have rule:∀{k:Nat} {i:It} {m:Int} {n:Nat},gL OL (k,i)->(aH R i.1)[i.2]?=some (false,m)->n<R.length->(R.getD n (0,[])).1=m->st.lk (k,(n,0))|||vz R Nu Fi i (st.lk (k,i))=st.lk (k,(n,0)):=fun {k i m n} hi h1 h2 h3=>by
  refine cls (k,i) hi ((k,(n,0)),vz R Nu Fi i (st.lk (k,i))) ?_;unfold qD;simp only;rw[h1];simp only[Bool.false_eq_true,if_false];refine List.mem_cons_of_mem _ (List.mem_map.2 ⟨n,?_,rfl⟩);unfold nV;rw[List.mem_filter,List.mem_range];exact⟨h2,by simpa using h3⟩
 induction hl with
 |start=>exact⟨A.zero,h0⟩
 |on _ h1 h2 ih=>
  rename_i k i t s n _;obtain⟨a1,a2⟩:=ih;obtain⟨o1,o2⟩:=A.on a1 h1
  have et:toN NL T k s=n:=by
   simp only at o1;rw[h2]at o1;omega
  have hg:=cls (k,i) a1 ((toN NL T k s,(i.1,i.2+1)),st.lk (k,i)) (by unfold qD;simp only;rw[h1];simp);simp only[et]at hg o2;exact⟨o2,or_bit hg a2⟩
 |begins hk hi h1 h2 h3 ht h4=>
  rename_i k i t m n;have a1:gL OL (k,i):=⟨by rw[A.nU.len];exact hk,((A.nU.jo k (by rw[A.nU.len];exact hk)).mem i).2 hi⟩;refine⟨A.close a1 h1 h2 h3,or_bit (rule a1 h1 h2 h3) ?_⟩;unfold vz;split
  ·rw[Nat.testBit_or,(bits a1 t).1,h4];rfl
  ·rw[(bits a1 t).1,h4]
 |nothing _ h1 h2 h3 h4 ih=>
  rename_i k i t m n _;obtain⟨a1,a2⟩:=ih;refine⟨A.close a1 h1 h2 h3,or_bit (rule a1 h1 h2 h3) ?_⟩;unfold vz;rw[if_pos (by rw[(bits a1 t).2];exact h4),Nat.testBit_or,a2,Bool.or_true]
theorem aau(A:jq T N R OL NL Ls)(hF:∀n,(Fi.getD n []).length<=T){st:LS}(H:mW T R OL NL Ls Nu Fi st)(hO:st.O=[])(h0:(st.lk (0,(R.length,0))).testBit T=true)(k:Nat)(i:It)(t:Nat):(st.lk (k,i)).testBit t=true↔Ga T R Nu Fi NL Ls k i t:=
 ⟨fun h=>(H.snd _ t h).2.2,fun h=>(aat A hF H hO h0 h).2⟩
end
end Go.Proofs.YtblkkhfdeaaidaaGreatDoor
